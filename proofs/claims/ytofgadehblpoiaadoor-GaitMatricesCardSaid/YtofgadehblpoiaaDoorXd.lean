/-
  GaitMatrices.
-/
import Derived.Test.YtofgadehblpoiaaDoorXc
namespace Go.Proofs.YtofgadehblpoiaaDoor
open Go.RowKit Go.Deep Go.Shelf

theorem sameS_refl2 (n : Nat) (S : Nat → ByteArray) : sameS n S n S = true := by
  unfold sameS
  rw [decide_eq_true rfl, Bool.true_and, allN_true]
  exact fun i _ => decide_eq_true rfl
set_option maxRecDepth 100000 in
set_option maxHeartbeats 8000000 in
theorem lawRows_any (w : World) (v : Value) (len : Nat) (S : Nat → ByteArray) (hV : StrsAt w v len S) (hlen : len ≤ maxLen) (hS : ∀ i, (S i).size ≤ 9223372036854775807) :
    Calls Tryd.prog 30 #[v] w (StrsPost w (min len 33) (fun i => cutS (S i))) := by
  obtain ⟨i0, hi, hz0, hz1, hz2⟩ := info_parts Tryd.info9
  obtain ⟨a, b, o, cap, rfl, ha, hc⟩ := hV
  unfold maxLen at hlen
  have HC := Lib.hid hc
  have CU := Lib.hid (fun W i => cut_any W (S i) (hS i))
  have hO0 := own_zero w w.heap.size 9 (Nat.le_refl _)
  have hK0 : Kept w (w.alloc (.cells #[] 9)) := (Kept.refl w).alloc _
  obtain ⟨m, HM⟩ : ∃ m, Hid (m = min len 33) := ⟨_, rfl⟩
  have hm1 : m ≤ len := by rw [HM.out]; omega
  have hm2 : m ≤ 33 := by rw [HM.out]; omega
  have hm3 : m = len ∨ m = 33 := by rw [HM.out]; omega
  rw [← HM.out]
  clear hc HM
  go_enter Tryd.func30, Tryd.ntmps30
  go_wp2_with fail
  have hsz0 : w.heap.size < (w.alloc (.cells #[] 9)).heap.size := by simp
  obtain ⟨G, HG⟩ : ∃ G, Hid (G = w.heap.size) := ⟨_, rfl⟩
  generalize w.alloc (.cells #[] 9) = W0 at *
  go_loopg [3, 4] m (fun g s3 s4 wr => ∃ j : Nat, j ≤ m ∧ g = m - j ∧ s4 = .int .i64 j ∧ Kept w wr ∧ wr.ownsRow w.heap.size 9 1 s3 j (strs (fun i => cutS (S i)) j) ∧ w.heap.size < wr.heap.size)
  case atStart => exact ⟨0, Nat.zero_le _, rfl, rfl, hK0, hO0, hsz0⟩
  case round =>
    obtain ⟨j, hj1, rfl, rfl, hK, hO, hsz⟩ := hrel
    clear hK0 hO0 hsz0
    obtain ⟨va, vcap, rfl⟩ := own_shape hO
    by_cases hlt : j < m
    · have s3 : (j : Int) < (len : Int) := by omega
      have s4 : (0 : Int) ≤ (j : Int) := by omega
      have s5 : (j : Int) ≤ 32 := by omega
      obtain rfl := ha (by omega)
      have t0 := hK.cellSome (HC.out j (by omega))
      (try dsimp only at t0)
      have CUj := Lib.hid (fun W => CU.out W j)
      have hnx : Hid (strs (fun i => cutS (S i)) (j + 1) = strs (fun i => cutS (S i)) j ++ [.string (cutS (S j))]) := strs_succ _ _
      generalize cutS (S j) = T at *
      generalize S j = s at *
      go_wp2_with (first | (go_at_call 15; refine (CUj.out _).mono ?_; rintro e w1 ⟨rfl, rfl⟩) | (at_builtin; refine wpList_append_own _ rfl _ _ 42 rfl w.heap.size 9 i0 (.string ⟨#[]⟩) 1 16 Tryd.underlying42 hi hz0 hz1 hz2 rfl (by decide) _ _ _ rfl (hO.alloc _) ⟨_, 0, none⟩ 1 1 [.string T] rfl rfl (cell_one_new _ _ _) ?c2 ?c3 ?c4 ?c5 ?_))
      case c2 => simp [Value.oneCell']
      case c3 => unfold maxLen; omega
      case c4 => omega
      case c5 => (try simp); omega
      intro ov' w2 hO3 hgr _
      have hK2 : Kept w w2 := (hK.alloc _).grew hgr (hO.alloc _) (Nat.le_refl _)
      have hO4 : w2.ownsRow w.heap.size 9 1 ov' (j + 1) (strs (fun i => cutS (S i)) (j + 1)) := by rw [hnx.out]; exact hO3
      have hsz2 : w.heap.size < w2.heap.size := by have := hgr.size; simp at this; omega
      clear hO3 hgr hO
      go_wp2_with fail
      go_roundg (m - (j + 1))
      case measure => omega
      case rel => exact ⟨j + 1, by omega, rfl, by first | rfl | go_num, hK2, hO4, hsz2⟩
    · obtain rfl : j = m := by omega
      by_cases hl : j = len
      · subst hl
        have s3 : ¬ (j : Int) < (j : Int) := by omega
        go_wp2_with fail
        go_ret
        exact ⟨_, rfl, hK, hO⟩
      · obtain rfl : j = 33 := by omega
        have s3 : ((33 : Nat) : Int) < (len : Int) := by omega
        have s4 : (33 : Int) < (len : Int) := by omega
        go_wp2_with fail
        go_ret
        exact ⟨_, rfl, hK, hO⟩
set_option maxRecDepth 100000 in
set_option maxHeartbeats 8000000 in
theorem matrices_any (w : World) (v : Value) (len : Nat) (S : Nat → ByteArray) (hV : StrsAt w v len S) (hlen : len ≤ maxLen) (hS : ∀ i, (S i).size ≤ 9223372036854775807) :
    Calls Tryd.prog 5 #[v] w (LivesPost w) := by
  have RO := Lib.hid (lawRows_any w v len S hV hlen hS)
  unfold StrsPost at RO
  have hm2 : min len 33 ≤ 33 := by omega
  generalize min len 33 = n at *
  obtain ⟨T, HT⟩ : ∃ T : Nat → ByteArray, Hid (T = fun i => cutS (S i)) := ⟨_, rfl⟩
  have hTs : ∀ i, (T i).size ≤ 9223372036854775807 := fun i => by rw [HT.out]; have := cutS_size (S i); dsimp only; omega
  rw [← HT.out] at RO
  clear HT hV hS
  have RI := Lib.hid (fun W v (h : StrsAt W v n T) => Right_any W v n T h (by omega) (fun i _ => hTs i))
  have NO := Lib.hid (fun W v (h : StrsAt W v n T) => Normal_any W v n T h (by omega) (fun i _ => hTs i))
  have RM := Lib.hid (fun W v (h : StrsAt W v n T) => rMatrix_any W v n T h (by omega))
  have LV := Lib.hid lives_any
  unfold RgtAns at RI
  unfold NorAns at NO
  by_cases h0 : matC n T = 0
  · have hg := matC_good h0
    have HV2 := Lib.hid (fun W v (h : StrsAt W v n T) => show StrsAt W v n (fun i => rowS n (mn (T i))) from CellsAt.congr h (fun i hi => congrArg Value.string (hg.2.2.2 i hi)))
    have RR := Lib.hid (fun W v (h : StrsAt W v n T) => rRight_any W v n (fun i => mn (T i)) (HV2.out W v h) (by omega))
    have RN := Lib.hid (fun W v (h : StrsAt W v n T) => rNormal_any W v n (fun i => mn (T i)) (HV2.out W v h) hg.1 (by omega))
    unfold StrsPost at RN
    simp only [h0, decide_true, Bool.true_and] at RI
    simp only [h0, if_true] at NO
    rw [h0] at RM
    have hN : n ≤ 1000000 := by omega
    have hsame := sameS_refl2 n (norS n (fun i => mn (T i)))
    generalize norS n (fun i => mn (T i)) = NN at *
    generalize rgtB n (fun i => mn (T i)) = bb at *
    have e2 : (bb == bb) = true := by simp
    clear h0 hg hm2 hTs
    go_enter Tryd.func5, Tryd.ntmps5
    go_wp2_with (first
      | (go_at_call 30; refine RO.out.mono ?_; rintro e w1 ⟨v1, rfl, hk1, hO1⟩; have hS1 := Lib.hid (strs_own hO1); obtain ⟨va1, vcap1, rfl⟩ := own_shape hO1; clear hO1)
      | (go_at_call 31; refine (RI.out _ _ hS1.out).mono ?_; rintro e w2 ⟨hk2, rfl⟩; have hS2 := Lib.hid (hS1.out.kept hk2))
      | (go_at_call 32; refine (NO.out _ _ hS2.out).mono ?_; rintro e w3 ⟨hk3, r, rfl, hr1, hr2⟩; have hS3 := Lib.hid (hS2.out.kept hk3); have hR3 := Lib.hid hr2; clear hr2)
      | (go_at_call 33; refine (RM.out _ _ hS3.out).mono ?_; rintro e w4 ⟨rfl, hk4⟩; have hS4 := Lib.hid (hS3.out.kept hk4); have hR4 := Lib.hid (hk4.row hR3.out))
      | (go_at_call 34; refine (RR.out _ _ hS4.out).mono ?_; rintro e w5 ⟨rfl, hq5⟩; have hS5 := Lib.hid (hS4.out.kept hq5.kept); have hR5 := Lib.hid (hq5.kept.row hR4.out))
      | (go_at_call 35; refine (RN.out _ _ hS5.out).mono ?_; rintro e w6 ⟨v6, rfl, hk6, hO6⟩; have hS6 := Lib.hid (strs_own hO6); obtain ⟨va6, vcap6, rfl⟩ := own_shape hO6; have hR6 := Lib.hid (hk6.row hR5.out); clear hO6)
      | (go_at_call 28; refine (sameS_any _ _ _ _ _ _ _ (CellsAt.of_row hR6.out) hS6.out hN hN).mono ?_; rintro e w7 ⟨rfl, hq7⟩; rw [hsame])
      | (go_at_call 20; refine (LV.out _).mono ?_; rintro e w8 ⟨rfl, hk8⟩))
    go_ret
    exact ⟨rfl, (((((hk1.trans hk2).trans hk3).trans hk4).trans hq5.kept).trans hk6).trans (hq7.kept.trans hk8)⟩
  · have e1 : (matC n T != 0) = true := by simpa using h0
    simp only [decide_eq_false h0, Bool.false_and] at RI
    simp only [if_neg h0] at NO
    have e3 : (matC n T == matC n T) = true := by simp
    generalize matC n T = c at *
    clear h0 hm2 hTs
    go_enter Tryd.func5, Tryd.ntmps5
    go_wp2_with (first
      | (go_at_call 30; refine RO.out.mono ?_; rintro e w1 ⟨v1, rfl, hk1, hO1⟩; have hS1 := Lib.hid (strs_own hO1); obtain ⟨va1, vcap1, rfl⟩ := own_shape hO1; clear hO1)
      | (go_at_call 31; refine (RI.out _ _ hS1.out).mono ?_; rintro e w2 ⟨hk2, rfl⟩; have hS2 := Lib.hid (hS1.out.kept hk2))
      | (go_at_call 32; refine (NO.out _ _ hS2.out).mono ?_; rintro e w3 ⟨hk3, rfl⟩; have hS3 := Lib.hid (hS2.out.kept hk3))
      | (go_at_call 33; refine (RM.out _ _ hS3.out).mono ?_; rintro e w4 ⟨rfl, hk4⟩)
      | (go_at_call 20; refine (LV.out _).mono ?_; rintro e w8 ⟨rfl, hk8⟩))
    go_ret
    exact ⟨rfl, (((hk1.trans hk2).trans hk3).trans hk4).trans hk8⟩
end Go.Proofs.YtofgadehblpoiaaDoor
