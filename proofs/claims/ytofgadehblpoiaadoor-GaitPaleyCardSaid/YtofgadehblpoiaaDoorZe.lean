/-
  The reference of gait: Bent. GaitBents.
-/
import Derived.Test.YtofgadehblpoiaaDoorZc
import Derived.Test.YtofgadehblpoiaaDoorZd
import Derived.Test.YtofgadehblpoiaaDoorLv
import Derived.Test.YtofgadehblpoiaaDoorMc
namespace Go.Proofs.YtofgadehblpoiaaDoor
open Go.RowKit Go.Deep Go.Shelf

theorem sgS_le (s : ByteArray) (i : Nat) : -1 ≤ sgS s i ∧ sgS s i ≤ 1 := by unfold sgS; split <;> omega
set_option maxRecDepth 100000 in
set_option maxHeartbeats 4000000 in
theorem rBent_any (w : World) (s : ByteArray) (n : Nat) (hs : s.size = n) (hn : n ≤ 64) :
    Calls Tryd.prog 40 #[.string s] w fun e w' => e = .returned (.bool (bentB n (trN n (sgS s)))) ∧ Kept w w' := by
  have SN := Lib.hid (fun W => rSigns_any W s n hs (by omega))
  have TR := Lib.hid (fun W v (h : IntsAt W v n (sgS s)) => rTransform_any W v n (sgS s) h hn (fun j _ => by have := sgS_le s j; omega))
  have HB := Lib.hid (fun i => trP_le (l := sgS s) (c := 1) (i := i) (m := n) (fun j _ => sgS_le s j))
  unfold IntsPost at SN TR
  obtain ⟨f, HF⟩ : ∃ f : Nat → Int, Hid (f = trN n (sgS s)) := ⟨_, rfl⟩
  have hf : Hid (∀ i, -64 ≤ f i ∧ f i ≤ 64) := fun i => by rw [HF.out]; have := HB.out i; unfold trN; omega
  rw [← HF.out] at TR ⊢
  clear HF HB
  go_enter Tryd.func40, Tryd.ntmps40
  go_wp2_with (first | (go_at_call 50; refine (SN.out _).mono ?_; rintro e w1 ⟨v1, rfl, hk1, hO1⟩; obtain ⟨a1, c1, rfl⟩ := own_shape hO1) | (go_at_call 38; refine (TR.out _ _ (ints_own hO1)).mono ?_; rintro e w2 ⟨v2, rfl, hk2, hO2⟩; obtain ⟨a2, c2, rfl⟩ := own_shape hO2))
  have hI := ints_own hO2
  have hK0 := hk1.trans hk2
  clear hO1 hO2 hk1 hk2 SN TR
  obtain ⟨_, b, o, cap, he, ha, hc⟩ := hI
  cases he
  have HC := Lib.hid hc
  clear hc
  go_loopg [4] n (fun g s4 wr => ∃ i : Nat, i ≤ n ∧ g = n - i ∧ s4 = .int .i64 i ∧ Quiet w2 wr ∧ Hid (allN (fun i => decide (f i * f i = (n : Int))) i = true))
  case atStart => exact ⟨0, Nat.zero_le _, rfl, rfl, Quiet.refl _, rfl⟩
  case round =>
    obtain ⟨i, hi, rfl, rfl, hQ, hA⟩ := hrel
    by_cases hlt : i < n
    · obtain rfl := ha (by omega)
      have t0 := hQ.kept.cellSome (HC.out i hlt)
      (try dsimp only at t0)
      have s2 : (i : Int) < (n : Int) := by omega
      have s3 : (0 : Int) ≤ (i : Int) := by omega
      have hb := hf.out i
      have hyes : Hid (f i * f i = (n : Int) → allN (fun i => decide (f i * f i = (n : Int))) (i + 1) = true) := fun h => allN_step hA.out (decide_eq_true h)
      have hno : Hid (¬ f i * f i = (n : Int) → allN (fun i => decide (f i * f i = (n : Int))) n = false) := fun h => allN_false hlt (decide_eq_false h)
      obtain ⟨x, HX⟩ : ∃ x, Hid (x = f i) := ⟨_, rfl⟩
      rw [← HX.out] at t0 hb hyes hno
      have hsq := sq_bound (show -64 ≤ x by omega) (show x ≤ 64 by omega)
      obtain ⟨z, HZ⟩ : ∃ z, z = x * x := ⟨_, rfl⟩
      rw [← HZ] at hyes hno hsq
      have e1 : x * x = z := HZ.symm
      have w1' : IntKind.i64.wrap z = z := IntWalk.i64_in _ (by omega)
      have w2' : wrap64 z = z := IntWalk.wrap64_in _ (by omega)
      clear hA HX HZ
      by_cases hz : z = (n : Int)
      · have e2 : (z != (n : Int)) = false := by simp [hz]
        have hA2 := Lib.hid (hyes.out hz)
        clear hyes hno
        go_wp2_with fail
        go_quiet (fail)
        go_wp2_with fail
        go_roundg (n - (i + 1))
        case measure => omega
        case rel => exact ⟨i + 1, by omega, rfl, by first | rfl | go_num, hQ.drewN _, hA2.out⟩
      · have e2 : (z != (n : Int)) = true := by simpa using hz
        have hA2 := Lib.hid (hno.out hz)
        clear hyes hno
        go_wp2_with fail
        go_quiet (fail)
        go_wp2_with fail
        go_ret
        exact ⟨ret_bool hA2.out.symm, hK0.trans (hQ.drewN _).kept⟩
    · obtain rfl : i = n := by omega
      have s2 : ¬ (i : Int) < (i : Int) := by omega
      go_wp2_with fail
      go_ret
      exact ⟨ret_bool hA.out.symm, hK0.trans hQ.kept⟩
theorem sgnS_sgS {s : ByteArray} (h : allSg s = true) {i : Nat} (hi : i < s.size) : sgnS s i = sgS s i := by
  rw [row_of h, sgnS_row hi, sgS_row hi]
theorem trN_congr {n : Nat} {l l' : Nat → Int} (h : ∀ j, j < n → l j = l' j) (i : Nat) : trN n l i = trN n l' i := trP_congr h
theorem bentB_congr {n : Nat} {t t' : Nat → Int} (h : ∀ i, i < n → t i = t' i) : bentB n t = bentB n t' := by
  unfold bentB
  rw [Bool.eq_iff_iff, allN_true, allN_true]
  constructor
  · intro a i hi; have := a i hi; rw [h i hi] at this; exact this
  · intro a i hi; have := a i hi; rw [← h i hi] at this; exact this
theorem is4_bad {n : Nat} (hn : n < 128) : is4 n = !(decide (pwr n < 0) || decide (Int.tmod (pwr n) 2 ≠ 0)) := by
  have h : ∀ n : Fin 128, is4 n.val = !(decide (pwr n.val < 0) || decide (Int.tmod (pwr n.val) 2 ≠ 0)) := by decide +kernel
  exact h ⟨n, hn⟩
set_option maxRecDepth 100000 in
set_option maxHeartbeats 8000000 in
theorem bents_any (w : World) (x : ByteArray) (hx : x.size ≤ 9223372036854775807) (hT : TzAt w) : Calls Tryd.prog 7 #[.string x] w (LivesPost w) := by
  have hsz := cutS_size x
  have CU := Lib.hid (fun W => cut_any W x hx)
  generalize cutS x = s at *
  have BE := Lib.hid (fun W (h : TzAt W) => Bent_any W s (by omega) h)
  have RW := Lib.hid (fun W => (Row_any (W.alloc (.cells #[.string s] 9)) (.slice (some ⟨W.heap.size, 0, none⟩) 1 1) 1 (fun _ => s) (strs_one W s) (by omega)))
  have LV := Lib.hid lives_any
  unfold BentAns at BE
  rw [rowsC_one] at RW
  by_cases h0 : rowC s = 0
  · have hg := rowC_good h0
    have RP := Lib.hid (fun W => rPower_any W s.size (by omega))
    have RB := Lib.hid (fun W => rBent_any W s s.size rfl hg.2.1)
    have hbad := is4_bad (show s.size < 128 by omega)
    have hbc : bentC s = if is4 s.size then 0 else 1 := by unfold bentC; rw [if_pos h0]
    have hbb : bentB s.size (trN s.size (sgnS s)) = bentB s.size (trN s.size (sgS s)) := bentB_congr fun i _ => trN_congr (fun j hj => sgnS_sgS hg.2.2 hj) i
    rw [h0] at RW
    rw [hbb] at BE
    generalize bentB s.size (trN s.size (sgS s)) = bb at *
    by_cases hneg : pwr s.size < 0
    · rw [decide_eq_true hneg] at hbad
      have h4 : is4 s.size = false := by simpa using hbad
      rw [h4] at hbc
      simp only [Bool.false_eq_true, if_false] at hbc
      rw [hbc] at BE
      simp only [show ¬ (1 : Int) = 0 by decide, decide_false, Bool.false_and] at BE
      generalize pwr s.size = q at *
      clear hbad h4 hbc h0 hbb
      go_enter Tryd.func7, Tryd.ntmps7
      go_wp2_with (first
        | (go_at_call 15; refine (CU.out _).mono ?_; rintro e w0 ⟨rfl, rfl⟩)
        | (go_at_call 39; refine (BE.out _ hT).mono ?_; rintro e w1 ⟨hk1, rfl⟩)
        | (go_at_call 19; refine (RW.out _).mono ?_; rintro e w2 ⟨rfl, hq2⟩)
        | (go_at_call 37; refine (RP.out _).mono ?_; rintro e w3 ⟨rfl, rfl⟩)
        | (go_at_call 20; refine (LV.out _).mono ?_; rintro e w4 ⟨rfl, hk4⟩))
      go_ret
      exact ⟨rfl, ((hk1.alloc _).trans hq2.kept).trans hk4⟩
    · by_cases hodd : Int.tmod (pwr s.size) 2 = 0
      · have h4 : is4 s.size = true := by rw [hbad, decide_eq_false hneg]; simp [hodd]
        rw [h4] at hbc
        simp only [if_true] at hbc
        rw [hbc] at BE
        simp only [decide_true, Bool.true_and] at BE
        have e1 : (Int.tmod (pwr s.size) 2 != 0) = false := by simp [hodd]
        have e1b : (pwr s.size % 2 != 0) = false := by rw [← Int.tmod_eq_emod_of_nonneg (by omega)]; exact e1
        have e2 : (bb == bb) = true := by simp
        generalize pwr s.size = q at *
        clear hbad h4 hbc h0 hbb
        go_enter Tryd.func7, Tryd.ntmps7
        go_wp2_with (first
          | (go_at_call 15; refine (CU.out _).mono ?_; rintro e w0 ⟨rfl, rfl⟩)
          | (go_at_call 39; refine (BE.out _ hT).mono ?_; rintro e w1 ⟨hk1, rfl⟩)
          | (go_at_call 19; refine (RW.out _).mono ?_; rintro e w2 ⟨rfl, hq2⟩)
          | (go_at_call 37; refine (RP.out _).mono ?_; rintro e w3 ⟨rfl, rfl⟩)
          | (go_at_call 40; refine (RB.out _).mono ?_; rintro e w5 ⟨rfl, hk5⟩)
          | (go_at_call 20; refine (LV.out _).mono ?_; rintro e w4 ⟨rfl, hk4⟩))
        go_ret
        exact ⟨rfl, (((hk1.alloc _).trans hq2.kept).trans hk5).trans hk4⟩
      · have h4 : is4 s.size = false := by rw [hbad, decide_eq_true hodd]; simp
        rw [h4] at hbc
        simp only [Bool.false_eq_true, if_false] at hbc
        rw [hbc] at BE
        simp only [show ¬ (1 : Int) = 0 by decide, decide_false, Bool.false_and] at BE
        have e1 : (Int.tmod (pwr s.size) 2 != 0) = true := by simpa using hodd
        have e1b : (pwr s.size % 2 != 0) = true := by rw [← Int.tmod_eq_emod_of_nonneg (by omega)]; exact e1
        generalize pwr s.size = q at *
        clear hbad h4 hbc h0 hbb
        go_enter Tryd.func7, Tryd.ntmps7
        go_wp2_with (first
          | (go_at_call 15; refine (CU.out _).mono ?_; rintro e w0 ⟨rfl, rfl⟩)
          | (go_at_call 39; refine (BE.out _ hT).mono ?_; rintro e w1 ⟨hk1, rfl⟩)
          | (go_at_call 19; refine (RW.out _).mono ?_; rintro e w2 ⟨rfl, hq2⟩)
          | (go_at_call 37; refine (RP.out _).mono ?_; rintro e w3 ⟨rfl, rfl⟩)
          | (go_at_call 20; refine (LV.out _).mono ?_; rintro e w4 ⟨rfl, hk4⟩))
        go_ret
        exact ⟨rfl, ((hk1.alloc _).trans hq2.kept).trans hk4⟩
  · have hbc : bentC s = rowC s := by unfold bentC; rw [if_neg h0]
    rw [hbc, decide_eq_false h0, Bool.false_and] at BE
    have e1 : (rowC s != 0) = true := by simpa using h0
    have e2 : (rowC s == 0) = false := by simpa using h0
    have e3 : (rowC s == rowC s) = true := by simp
    generalize rowC s = c at *
    clear h0 hbc
    go_enter Tryd.func7, Tryd.ntmps7
    go_wp2_with (first
      | (go_at_call 15; refine (CU.out _).mono ?_; rintro e w0 ⟨rfl, rfl⟩)
      | (go_at_call 39; refine (BE.out _ hT).mono ?_; rintro e w1 ⟨hk1, rfl⟩)
      | (go_at_call 19; refine (RW.out _).mono ?_; rintro e w2 ⟨rfl, hq2⟩)
      | (go_at_call 20; refine (LV.out _).mono ?_; rintro e w4 ⟨rfl, hk4⟩))
    go_ret
    exact ⟨rfl, ((hk1.alloc _).trans hq2.kept).trans hk4⟩
end Go.Proofs.YtofgadehblpoiaaDoor
