/-
  The reference's Minus, IsGolay; the law's cut.
-/
import Derived.Test.YtcgbfhjefepafaaDoorMi
import Derived.Test.YtcgbfhjefepafaaDoorRd
namespace Go.Proofs.YtcgbfhjefepafaaDoor
open Go.RowKit Go.Deep Go.Shelf

def cutS (s : ByteArray) : ByteArray := if s.size ≤ 65 then s else s.extract 0 65
theorem cutS_size (s : ByteArray) : (cutS s).size ≤ 65 := by
  unfold cutS
  split
  · assumption
  · rw [size_extract _ _ _ (by omega)]; omega
set_option maxRecDepth 100000 in
set_option maxHeartbeats 4000000 in
theorem cut_any (w : World) (s : ByteArray) (hs : s.size ≤ 9223372036854775807) :
    Calls Tryd.prog 15 #[.string s] w fun e w' => e = .returned (.string (cutS s)) ∧ w = w' := by
  unfold cutS
  by_cases h : s.size ≤ 65
  · rw [if_pos h]
    have s1 : (s.size : Int) ≤ 65 := by omega
    have s2 : min (s.size : Int) 65 = (s.size : Int) := by omega
    have s3 : (0 : Int) ≤ (s.size : Int) := by omega
    have w1 : IntKind.i64.wrap (s.size : Int) = (s.size : Int) := IntWalk.i64_in _ (by omega)
    go_enter Tryd.func15, Tryd.ntmps15
    go_wp2_with fail
    go_ret
    exact ⟨rfl, rfl⟩
  · rw [if_neg h]
    have s1 : ¬ (s.size : Int) ≤ 65 := by omega
    have s2 : min (s.size : Int) 65 = 65 := by omega
    have s3 : (65 : Int) ≤ (s.size : Int) := by omega
    have s4 : 65 ≤ s.size := by omega
    go_enter Tryd.func15, Tryd.ntmps15
    go_wp2_with fail
    go_ret
    exact ⟨rfl, rfl⟩
set_option maxRecDepth 100000 in
set_option maxHeartbeats 4000000 in
theorem rMinus_any (w : World) (s : ByteArray) (n : Nat) (hs : s.size = n) (hn : n ≤ 1000) :
    Calls Tryd.prog 34 #[.string s] w fun e w' => e = .returned (.string (rowS n (fun i => chr s i == 43))) ∧ w = w' := by
  have SG := Lib.hid (fun (W : World) (i : Nat) (h : i < s.size) => Sign_any W s i h)
  obtain ⟨p, HP⟩ : ∃ p : Nat → Bool, Hid (p = fun i => chr s i == 43) := ⟨_, rfl⟩
  rw [← HP.out]
  go_enter Tryd.func34, Tryd.ntmps34
  go_wp2_with fail
  go_loopg [3, 4] n (fun g s3 s4 wr => ∃ i : Nat, i ≤ n ∧ g = n - i ∧ s3 = .string (rowS i p) ∧ s4 = .int .i64 i ∧ w = wr)
  case atStart => exact ⟨0, Nat.zero_le _, rfl, rfl, rfl, rfl⟩
  case round =>
    obtain ⟨i, hi, rfl, rfl, rfl, rfl⟩ := hrel
    have hsz : (rowS i p).size = i := rowS_size _ _
    by_cases hlt : i < n
    · have s2 : (i : Int) < (n : Int) := by omega
      have SGi := Lib.hid (fun W => SG.out W i (by omega))
      have hsn := Lib.hid (row_snoc i p)
      have hpb := Lib.hid (pm_bit (p i))
      have hx := hpb.out
      have hTs : (rowS 1 (fun _ => p i)).size = 1 := rowS_size _ _
      have hpi : p i = (chr s i == 43) := by rw [HP.out]
      unfold sgS at SGi
      unfold pmS at hx
      have s4 : ¬ 9223372036854775807 < i + 1 := by omega
      obtain ⟨R', HR'⟩ : ∃ R', R' = rowS (i + 1) p := ⟨_, rfl⟩
      rw [← HR'] at hsn
      generalize p i = b at *
      cases b with
      | true =>
        have hc : chr s i = 43 := by simpa using hpi.symm
        rw [if_pos hc] at SGi
        simp only [if_true] at hx
        generalize rowS 1 (fun _ => true) = T at *
        generalize rowS i p = R at *
        clear hpi hc hpb
        go_wp2_with (first | (go_at_call 62; refine (SGi.out _).mono ?_; rintro e w1 ⟨rfl, rfl⟩))
        go_roundg (n - (i + 1))
        case measure => omega
        case rel => exact ⟨i + 1, by omega, rfl, by rw [← HR', hsn.out], by first | rfl | go_num, rfl⟩
      | false =>
        have hc : ¬ chr s i = 43 := by simpa using hpi.symm
        rw [if_neg hc] at SGi
        simp only [Bool.false_eq_true, if_false] at hx
        generalize rowS 1 (fun _ => false) = T at *
        generalize rowS i p = R at *
        clear hpi hc hpb
        go_wp2_with (first | (go_at_call 62; refine (SGi.out _).mono ?_; rintro e w1 ⟨rfl, rfl⟩))
        go_roundg (n - (i + 1))
        case measure => omega
        case rel => exact ⟨i + 1, by omega, rfl, by rw [← HR', hsn.out], by first | rfl | go_num, rfl⟩
    · obtain rfl : i = n := by omega
      have s2 : ¬ (i : Int) < (i : Int) := by omega
      go_wp2_with fail
      go_ret
      exact ⟨rfl, rfl⟩
def golR (s t : ByteArray) (n : Nat) : Bool := allN (fun k => decide (k = 0) || decide (likR s k (n - k) + likR t k (n - k) = 0)) n
theorem golR_rows (n : Nat) (p q : Nat → Bool) : golR (rowS n p) (rowS n q) n = golN n p q := by
  unfold golR golN
  apply Bool.eq_iff_iff.2
  rw [allN_true, allN_true]
  constructor
  · intro h i hi
    have := h i hi
    rw [likR_row n i p (by omega), likR_row n i q (by omega)] at this
    exact this
  · intro h i hi
    rw [likR_row n i p (by omega), likR_row n i q (by omega)]
    exact h i hi
theorem golR_gol {s t : ByteArray} (hs : rowC s = 0) (ht : rowC t = 0) (he : s.size = t.size) : golR s t s.size = golS s t s.size := by
  have e1 := row_of (rowC_good hs).2.2
  have e2 := row_of (rowC_good ht).2.2
  rw [← he] at e2
  generalize s.size = n at *
  rw [e1, e2, golR_rows, golS_rows]
set_option maxRecDepth 100000 in
set_option maxHeartbeats 4000000 in
theorem rIsGolay_any (w : World) (s t : ByteArray) (n : Nat) (hs : s.size = n) (ht : t.size = n) (hn1 : 1 ≤ n) (hn : n ≤ 100) :
    Calls Tryd.prog 30 #[.string s, .string t] w fun e w' => e = .returned (.bool (golR s t n)) ∧ Kept w w' := by
  have L1 := Lib.hid (fun W => rLike_any W s n hs hn)
  have L2 := Lib.hid (fun W => rLike_any W t n ht hn)
  unfold IntsPost at L1 L2
  obtain ⟨f, HF⟩ : ∃ f : Nat → Int, Hid (f = fun k => likR s k (n - k)) := ⟨_, rfl⟩
  obtain ⟨g, HG⟩ : ∃ g : Nat → Int, Hid (g = fun k => likR t k (n - k)) := ⟨_, rfl⟩
  have hf : Hid (∀ k, k < n → -(n : Int) ≤ f k ∧ f k ≤ n) := fun k hk => by rw [HF.out]; have := likR_bound s k (n - k); dsimp only; omega
  have hg : Hid (∀ k, k < n → -(n : Int) ≤ g k ∧ g k ≤ n) := fun k hk => by rw [HG.out]; have := likR_bound t k (n - k); dsimp only; omega
  have hdef : golR s t n = allN (fun k => decide (k = 0) || decide (f k + g k = 0)) n := by rw [HF.out, HG.out]; rfl
  rw [hdef]
  rw [← HF.out] at L1
  rw [← HG.out] at L2
  clear hdef HF HG
  go_enter Tryd.func30, Tryd.ntmps30
  go_wp2_with (go_at_call 22; first | (refine (L1.out _).mono ?_; clear L1; rintro e w1 ⟨v1, rfl, hk1, hO1⟩; obtain ⟨a1, c1, rfl⟩ := own_shape hO1) | (refine (L2.out _).mono ?_; clear L2; rintro e w2 ⟨v2, rfl, hk2, hO2⟩; obtain ⟨a2, c2, rfl⟩ := own_shape hO2))
  have hI1 := (ints_own hO1).kept hk2
  have hI2 := ints_own hO2
  have hK0 := hk1.trans hk2
  clear hO1 hO2 hk1 hk2
  obtain ⟨_, b1, o1, cap1, he1, ha1, hc1⟩ := hI1
  obtain ⟨_, b2, o2, cap2, he2, ha2, hc2⟩ := hI2
  cases he1
  cases he2
  obtain rfl := ha1 (by omega)
  obtain rfl := ha2 (by omega)
  have HC1 := Lib.hid hc1
  have HC2 := Lib.hid hc2
  clear hc1 hc2 ha1 ha2
  go_loopg [7] n (fun gg s7 wr => ∃ k : Nat, 1 ≤ k ∧ k ≤ n ∧ gg + k = n + 1 ∧ s7 = .int .i64 k ∧ Quiet w2 wr ∧ Hid (allN (fun k => decide (k = 0) || decide (f k + g k = 0)) k = true))
  case atStart => exact ⟨1, by omega, by omega, by omega, rfl, Quiet.refl _, by show _ = _; simp [allN]⟩
  case round =>
    obtain ⟨k, hk1, hk, hgg, rfl, hQ, hA⟩ := hrel
    by_cases hlt : k < n
    · have t0 := hQ.kept.cellSome (HC1.out k hlt)
      have t1 := hQ.kept.cellSome (HC2.out k hlt)
      dsimp only at t0 t1
      have s2 : (k : Int) < (n : Int) := by omega
      have s3 : (0 : Int) ≤ (k : Int) := by omega
      obtain ⟨q1, q2⟩ := hf.out k hlt
      obtain ⟨q3, q4⟩ := hg.out k hlt
      have hyes : Hid (f k + g k = 0 → allN (fun k => decide (k = 0) || decide (f k + g k = 0)) (k + 1) = true) := fun h => allN_step hA.out (by rw [decide_eq_true h, Bool.or_true])
      have hno : Hid (¬ f k + g k = 0 → allN (fun k => decide (k = 0) || decide (f k + g k = 0)) n = false) := fun h => allN_false hlt (by rw [decide_eq_false h, decide_eq_false (by omega)]; rfl)
      obtain ⟨x, HX⟩ : ∃ x, Hid (x = f k) := ⟨_, rfl⟩
      obtain ⟨y, HY⟩ : ∃ y, Hid (y = g k) := ⟨_, rfl⟩
      rw [← HX.out] at t0 q1 q2 hyes hno
      rw [← HY.out] at t1 q3 q4 hyes hno
      have w1 : IntKind.i64.wrap (x + y) = x + y := IntWalk.i64_in _ (by omega)
      have w2 : wrap64 (x + y) = x + y := IntWalk.wrap64_in _ (by omega)
      clear hA
      by_cases hz : x + y = 0
      · have e1 : (x + y != 0) = false := by simp [hz]
        have hA2 := Lib.hid (hyes.out hz)
        clear hyes hno hz
        go_wp2_with fail
        go_quiet (fail)
        go_wp2_with fail
        go_roundg (n + 1 - (k + 1))
        case measure => omega
        case rel => exact ⟨k + 1, by omega, by omega, by omega, by first | rfl | go_num, hQ.drewN _, hA2.out⟩
      · have e1 : (x + y != 0) = true := by simpa using hz
        have hA2 := Lib.hid (hno.out hz)
        clear hyes hno hz
        go_wp2_with fail
        go_quiet (fail)
        go_wp2_with fail
        go_ret
        exact ⟨ret_bool hA2.out.symm, hK0.trans (hQ.drewN _).kept⟩
    · obtain rfl : k = n := by omega
      have s2 : ¬ (k : Int) < (k : Int) := by omega
      go_wp2_with fail
      go_ret
      exact ⟨ret_bool hA.out.symm, hK0.trans hQ.kept⟩
end Go.Proofs.YtcgbfhjefepafaaDoor
