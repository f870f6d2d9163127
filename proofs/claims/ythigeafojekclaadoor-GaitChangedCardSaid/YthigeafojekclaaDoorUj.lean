/-
  GaitLikes.
-/
import Derived.Test.YthigeafojekclaaDoorUq
namespace Go.Proofs.YthigeafojekclaaDoor
open Go.RowKit Go.Deep Go.Shelf

set_option maxRecDepth 100000 in
set_option maxHeartbeats 16000000 in
theorem likes_any (w : World) (x : ByteArray) (hx : x.size ≤ 9223372036854775807) (hP : PowAt w) : Calls Tryd.prog 3 #[.string x] w (LivesPost w) := by
  have hsz := cutS_size x
  have CU := Lib.hid (fun W => cut_any W x hx)
  generalize cutS x = s at *
  have LI := Lib.hid (fun W => Like_any W s (by omega))
  have AR := Lib.hid (fun W => Around_any W s (by omega))
  have RW := Lib.hid (fun W => (Row_any (W.alloc (.cells #[.string s] 9)) (.slice (some ⟨W.heap.size, 0, none⟩) 1 1) 1 (fun _ => s) (strs_one W s) (by omega)))
  have LV := Lib.hid lives_any
  have ME := Lib.hid (fun W (h : PowAt W) => Merit_any W s (by omega) (fun _ h2 => ⟨ItoaOk.any h _ (by
      have := Nat.div_le_self (s.size * s.size) (Nat.gcd (2 * (sqS s).toNat) (s.size * s.size))
      have : s.size * s.size ≤ 65 * 65 := Nat.mul_le_mul hsz hsz
      omega), ItoaOk.any h _ (by
      have h3 := Nat.div_le_self (2 * (sqS s).toNat) (Nat.gcd (2 * (sqS s).toNat) (s.size * s.size))
      have h4 : sqS s ≤ 10000 * 65 := by
        have h5 := sumZ_le (f := fun k => likeS s s.size (k + 1) * likeS s s.size (k + 1)) (c := 4225) (n := s.size - 1) (fun k _ => by
          have h6 := lkS_bound (s.extract 0 (s.size - (k + 1))) (s.extract (k + 1) s.size) (s.size - (k + 1))
          have h7 := sq_bound (x := likeS s s.size (k + 1)) (n := 65) (by unfold likeS; omega) (by unfold likeS; omega)
          (try dsimp only)
          omega)
        unfold sqS
        omega
      omega)⟩))
  unfold LikeAns at LI AR
  unfold MeritAns at ME
  rw [rowsC_one] at RW
  by_cases h0 : rowC s = 0
  · have hg := rowC_good h0
    have hrow := row_of hg.2.2
    simp only [h0, if_true] at LI AR ME
    rw [h0] at RW
    obtain ⟨n, HN⟩ : ∃ n, s.size = n := ⟨_, rfl⟩
    obtain ⟨p, HP⟩ : ∃ p, p = mn s := ⟨_, rfl⟩
    rw [HN] at hg hrow LI AR ME
    rw [← HP] at hrow
    clear HP
    have HLK : Hid (∀ k, k < n → likeS s n k = likeN n p k) := fun k hk => by rw [hrow, likeS_row n k p (by omega)]
    have HAR : Hid (∀ k, k < n → arouS s n k = arouN n p k) := fun k hk => by rw [hrow, arouS_row n k p hk]
    have hsq : sqS s = sqN n p := by rw [hrow, sqS_row]
    have RL := Lib.hid (fun W => show Calls Tryd.prog 12 #[.string s] W (IntsPost W n (fun k => likR s k (n - k))) from rLike_any W s n HN (by omega))
    have HLR : Hid (∀ k, k < n → likR s k (n - k) = likeN n p k) := fun k hk => by rw [hrow, likR_row n k p (by omega)]
    have RA := Lib.hid (fun W => show Calls Tryd.prog 13 #[.string s] W (IntsPost W n (arouN n p)) by
      have h := rAround_any W n p (by omega)
      rw [← hrow] at h
      exact h)
    have RS := Lib.hid (fun W => show Calls Tryd.prog 14 #[.string s] W fun e w' => e = .returned (.int .i64 (sqN n p)) ∧ Kept W w' by
      have h := rSquares_any W s n HN (by omega)
      have e : sumZ (fun k => likR s (k + 1) (n - (k + 1)) * likR s (k + 1) (n - (k + 1))) (n - 1) = sqN n p := by
        unfold sqN
        exact sumZ_congr fun k hk => by (try dsimp only); rw [HLR.out (k + 1) (by omega)]
      rw [e] at h
      exact h)
    unfold IntsPost at RL RA
    have hN : n ≤ 1000000 := by omega
    have hsql := sqN_le p hg.2.1
    rw [hsq] at ME
    have hs1 := same_refl3 n (likeN n p)
    have hs2 := same_refl3 n (arouN n p)
    have HSL := Lib.hid (fun (W : World) (u v : Value) (h1 : CellsAt W u n (fun k => .int .i64 (likeS s n k))) (h2 : CellsAt W v n (fun k => .int .i64 (likR s k (n - k)))) => show Calls Tryd.prog 11 #[u, v] W fun e w' => e = .returned (.bool true) ∧ Quiet W w' by
      have h := same_any W u v n n (likeN n p) (likeN n p) (h1.congr fun k hk => by rw [HLK.out k hk]) (h2.congr fun k hk => by rw [HLR.out k hk]) hN hN
      rw [hs1] at h
      exact h)
    have HSA := Lib.hid (fun (W : World) (u v : Value) (h1 : CellsAt W u n (fun k => .int .i64 (arouS s n k))) (h2 : CellsAt W v n (fun k => .int .i64 (arouN n p k))) => show Calls Tryd.prog 11 #[u, v] W fun e w' => e = .returned (.bool true) ∧ Quiet W w' by
      have h := same_any W u v n n (arouN n p) (arouN n p) (h1.congr fun k hk => by rw [HAR.out k hk]) h2 hN hN
      rw [hs2] at h
      exact h)
    generalize sqN n p = sq at *
    have hn1 := hg.1
    have hn64 := hg.2.1
    clear h0 hg hrow hsq HLK HAR HLR hs1 hs2
    by_cases hsq0 : sq = 0
    · subst hsq0
      simp only [eq_self, if_true] at ME
      go_enter Tryd.func3, Tryd.ntmps3
      go_wp2_with (first
        | (go_at_call 5; refine (CU.out _).mono ?_; rintro e w0 ⟨rfl, rfl⟩)
        | (go_at_call 6; refine (LI.out _).mono ?_; rintro e w1 ⟨hk1, r1, rfl, _, hr1⟩)
        | (go_at_call 7; refine (AR.out _).mono ?_; rintro e w2 ⟨hk2, r2, rfl, _, hr2⟩)
        | (go_at_call 8; refine (ME.out _ (tab_kept hP (hk1.trans hk2))).mono ?_; rintro e w3 ⟨hk3, rfl⟩)
        | (go_at_call 9; refine (RW.out _).mono ?_; rintro e w4 ⟨rfl, hq4⟩; have hk4 := ((Kept.refl w3).alloc (.cells #[.string s] 9)).trans hq4.kept)
        | (go_at_call 12; refine (RL.out _).mono ?_; rintro e w5 ⟨v5, rfl, hk5, hO5⟩; have hI5 := ints_own hO5; obtain ⟨va5, vc5, rfl⟩ := own_shape hO5)
        | (go_at_call 11; first | (refine (HSL.out _ _ _ (CellsAt.of_row ((hk2.trans (hk3.trans (hk4.trans hk5))).row hr1)) hI5).mono ?_; clear HSL; rintro e w6 ⟨rfl, hq6⟩; have hk6 := hq6.kept) | (refine (HSA.out _ _ _ (CellsAt.of_row ((hk3.trans (hk4.trans (hk5.trans (hq6.kept.trans hk7)))).row hr2)) hI7).mono ?_; clear HSA; rintro e w8 ⟨rfl, hq8⟩; have hk8 := hq8.kept))
        | (go_at_call 13; refine (RA.out _).mono ?_; rintro e w7 ⟨v7, rfl, hk7, hO7⟩; have hI7 := ints_own hO7; obtain ⟨va7, vc7, rfl⟩ := own_shape hO7)
        | (go_at_call 10; refine (LV.out _).mono ?_; rintro e w9 ⟨rfl, hk9⟩)
        | (go_at_call 14; refine (RS.out _).mono ?_; rintro e w10 ⟨rfl, hk10⟩))
      go_ret
      exact ⟨rfl, ((((((((hk1.trans hk2).trans hk3).trans hk4).trans hk5).trans hq6.kept).trans hk7).trans hq8.kept).trans hk9).trans hk10⟩
    · obtain ⟨S, rfl⟩ : ∃ S : Nat, sq = S := ⟨sq.toNat, by omega⟩
      have hS0 : 0 < S := by omega
      simp only [hsq0, if_false, Int.toNat_natCast] at ME
      have hnn : n * n ≤ 64 * 64 := Nat.mul_le_mul hn64 hn64
      have hnn1 : 1 ≤ n * n := Nat.mul_le_mul hn1 hn1
      obtain ⟨A, HA⟩ : ∃ A, A = n * n := ⟨_, rfl⟩
      have eA : (n : Int) * (n : Int) = (A : Int) := by rw [HA]; simp
      rw [← HA] at ME hnn hnn1
      obtain ⟨B, HB⟩ : ∃ B, B = 2 * S := ⟨_, rfl⟩
      have eB : (2 : Int) * (S : Int) = (B : Int) := by rw [HB]; simp
      have hB0 : 0 < B := by omega
      have hBl : B ≤ 1000000 := by omega
      rw [← HB] at ME
      obtain ⟨qx, qy, lx, ly, hqx, hqy, q1, q2, q3, q4, q5, q6, q7, q8, q9, hquo⟩ := quo_num (a := A) (b := B) (by omega) hB0 (by omega) (by omega)
      rw [hquo] at ME
      have MK := Lib.hid (fun W => show Calls Tryd.prog 16 #[.int .i64 A, .int .i64 B] W (Num.QPost W qx qy) by rw [hqx, hqy]; exact Num.Make_any W A B (by omega) (by omega) hB0)
      have IS := Lib.hid (fun W v h => Num.IsF_any W v qx qy lx ly h q5 q1 q2 q3 q4 q6 q7 q8 q9)
      unfold Num.QPost at MK
      generalize (if qy = 1 then Num.strL lx else Num.strL lx ++ (⟨#[47]⟩ ++ Num.strL ly)) = TT at *
      have e0 : ((S : Int) == 0) = false := by rw [beq_eq_false_iff_ne]; omega
      have v1 : IntKind.i64.wrap (A : Int) = (A : Int) := IntWalk.i64_in _ (by omega)
      have v2 : IntKind.i64.wrap (B : Int) = (B : Int) := IntWalk.i64_in _ (by omega)
      have v3 : wrap64 (A : Int) = (A : Int) := IntWalk.wrap64_in _ (by omega)
      have v4 : wrap64 (B : Int) = (B : Int) := IntWalk.wrap64_in _ (by omega)
      clear HA HB hqx hqy hquo q1 q2 q3 q4 q5 q6 q7 q8 q9 hsq0 hsql
      go_enter Tryd.func3, Tryd.ntmps3
      go_wp2_with (first
        | (go_at_call 5; refine (CU.out _).mono ?_; rintro e w0 ⟨rfl, rfl⟩)
        | (go_at_call 6; refine (LI.out _).mono ?_; rintro e w1 ⟨hk1, r1, rfl, _, hr1⟩)
        | (go_at_call 7; refine (AR.out _).mono ?_; rintro e w2 ⟨hk2, r2, rfl, _, hr2⟩)
        | (go_at_call 8; refine (ME.out _ (tab_kept hP (hk1.trans hk2))).mono ?_; rintro e w3 ⟨hk3, rfl⟩)
        | (go_at_call 9; refine (RW.out _).mono ?_; rintro e w4 ⟨rfl, hq4⟩; have hk4 := ((Kept.refl w3).alloc (.cells #[.string s] 9)).trans hq4.kept)
        | (go_at_call 12; refine (RL.out _).mono ?_; rintro e w5 ⟨v5, rfl, hk5, hO5⟩; have hI5 := ints_own hO5; obtain ⟨va5, vc5, rfl⟩ := own_shape hO5)
        | (go_at_call 11; first | (refine (HSL.out _ _ _ (CellsAt.of_row ((hk2.trans (hk3.trans (hk4.trans hk5))).row hr1)) hI5).mono ?_; clear HSL; rintro e w6 ⟨rfl, hq6⟩; have hk6 := hq6.kept) | (refine (HSA.out _ _ _ (CellsAt.of_row ((hk3.trans (hk4.trans (hk5.trans (hq6.kept.trans hk7)))).row hr2)) hI7).mono ?_; clear HSA; rintro e w8 ⟨rfl, hq8⟩; have hk8 := hq8.kept))
        | (go_at_call 13; refine (RA.out _).mono ?_; rintro e w7 ⟨v7, rfl, hk7, hO7⟩; have hI7 := ints_own hO7; obtain ⟨va7, vc7, rfl⟩ := own_shape hO7)
        | (go_at_call 10; refine (LV.out _).mono ?_; rintro e w9 ⟨rfl, hk9⟩)
        | (go_at_call 14; refine (RS.out _).mono ?_; first | (rintro e w10 ⟨rfl, hk10⟩))
        | (go_at_call 16; refine (MK.out _).mono ?_; rintro e w11 ⟨v11, rfl, hq11, hk11⟩; obtain ⟨z0, z1, z2, z3, z4, z5, z6, z7, rfl, _, _⟩ := hq11.shape)
        | (go_at_call 15; refine (IS.out _ _ hq11).mono ?_; rintro e w12 ⟨rfl, hk12⟩))
      go_ret
      refine ⟨rfl, ?_⟩
      exact (by repeat (first | assumption | exact Kept.refl _ | apply Kept.drew | apply Kept.drewN | apply Kept.alloc | refine Kept.trans ?_ (by assumption)))
  · have e1 : (rowC s != 0) = true := by simpa using h0
    have e2 : (rowC s == rowC s) = true := by simp
    simp only [if_neg h0] at LI AR ME
    generalize rowC s = c at *
    clear h0
    go_enter Tryd.func3, Tryd.ntmps3
    go_wp2_with (first
      | (go_at_call 5; refine (CU.out _).mono ?_; rintro e w0 ⟨rfl, rfl⟩)
      | (go_at_call 6; refine (LI.out _).mono ?_; rintro e w1 ⟨hk1, rfl⟩)
      | (go_at_call 7; refine (AR.out _).mono ?_; rintro e w2 ⟨hk2, rfl⟩)
      | (go_at_call 8; refine (ME.out _ (tab_kept hP (hk1.trans hk2))).mono ?_; rintro e w3 ⟨hk3, rfl⟩)
      | (go_at_call 9; refine (RW.out _).mono ?_; rintro e w4 ⟨rfl, hq4⟩; have hk4 := ((Kept.refl w3).alloc (.cells #[.string s] 9)).trans hq4.kept)
      | (go_at_call 10; refine (LV.out _).mono ?_; rintro e w9 ⟨rfl, hk9⟩))
    go_ret
    exact ⟨rfl, (((hk1.trans hk2).trans hk3).trans hk4).trans hk9⟩
end Go.Proofs.YthigeafojekclaaDoor
