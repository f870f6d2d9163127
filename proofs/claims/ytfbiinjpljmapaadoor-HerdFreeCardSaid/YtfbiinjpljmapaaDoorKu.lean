/-
  HerdTuran's numbers: count, the herd of r parts.
-/
import Derived.Test.YtfbiinjpljmapaaDoorKt
import Derived.Test.YtfbiinjpljmapaaDoorJf
import Derived.Test.YtfbiinjpljmapaaDoorJa
import Derived.Test.YtfbiinjpljmapaaDoorJd
namespace Go.Proofs.YtfbiinjpljmapaaDoor
open Go.RowKit Go.Deep

/-- the degrees of the first i horses -/
def sumD (F : Nat → Nat → Bool) (n : Nat) (i : Nat) : Nat := sumN (fun i => cnt (F i) n) i
theorem sumD_le (F : Nat → Nat → Bool) (n i : Nat) : sumD F n i ≤ n * i := sumN_le _ _ _ fun _ _ => cnt_le _ _
set_option maxRecDepth 100000 in
set_option maxHeartbeats 4000000 in
theorem count_any (w : World) (v : Value) (n : Nat) (F : Nat → Nat → Bool) (hG : GridAt w v n F) (hn : n ≤ 100) :
    Calls Tryd.prog 25 #[v] w fun e w' => e = .returned (.int .i64 ((sumD F n n / 2 : Nat) : Int)) ∧ w = w' := by
  have DG := Lib.hid (fun i (hi : i < n) => degree_any w v n i F hG hi (by omega))
  have hb : Hid (∀ i, i ≤ n → sumD F n i ≤ 10000) := fun i hi => by
    have h1 := sumD_le F n i
    have h2 : n * i ≤ 100 * 100 := Nat.mul_le_mul hn (by omega)
    omega
  obtain ⟨g, cap, R, rfl, hG2⟩ := hG
  clear hG2
  go_enter Tryd.func25, Tryd.ntmps25
  go_wp2_with fail
  go_loopg [3, 4] n (fun q s3 s4 wr => ∃ k : Nat, k ≤ n ∧ q = n - k ∧ s4 = .int .i64 k ∧ s3 = .int .i64 ((sumD F n k : Nat) : Int) ∧ w = wr)
  case atStart => exact ⟨0, Nat.zero_le _, rfl, by first | rfl | go_num, by first | rfl | go_num, rfl⟩
  case round =>
    obtain ⟨k, hk, rfl, rfl, rfl, rfl⟩ := hrel
    by_cases hlt : k < n
    · have s1 : (k : Int) < (n : Int) := by omega
      have hs : Hid (sumD F n (k + 1) = sumD F n k + cnt (F k) n) := rfl
      have hb1 := hb.out k (by omega)
      have hb2 := hb.out (k + 1) (by omega)
      rw [hs.out] at hb2
      have DK := Lib.hid (DG.out k hlt)
      obtain ⟨c, HC⟩ : ∃ c, Hid (c = sumD F n k) := ⟨_, rfl⟩
      rw [← HC.out] at hs hb1 hb2 ⊢
      obtain ⟨d, HD⟩ : ∃ d, Hid (d = cnt (F k) n) := ⟨_, rfl⟩
      rw [← HD.out] at hs hb2 DK
      clear HC HD
      go_wp2_with (first | (go_at_call 27; refine DK.out.mono ?_; clear DK; rintro e w1 ⟨rfl, rfl⟩))
      go_roundg (n - (k + 1))
      case measure => omega
      case rel => exact ⟨k + 1, by omega, rfl, by first | rfl | go_num, by rw [hs.out]; first | rfl | go_num, rfl⟩
    · obtain rfl : k = n := by omega
      have hb1 := hb.out k (by omega)
      obtain ⟨c, HC⟩ : ∃ c, Hid (c = sumD F k k) := ⟨_, rfl⟩
      rw [← HC.out] at hb1 ⊢
      have e1 : Int.tdiv (c : Int) 2 = ((c / 2 : Nat) : Int) := (Int.ofNat_tdiv c 2).symm
      have e2 : IntKind.i64.wrap ((c / 2 : Nat) : Int) = ((c / 2 : Nat) : Int) := IntWalk.i64_in _ (by omega)
      obtain ⟨h, HH⟩ : ∃ h, Hid (h = c / 2) := ⟨_, rfl⟩
      rw [← HH.out] at e1 e2
      go_wp2_with fail
      go_ret
      exact ⟨ret_int (by rw [HH.out, HC.out]), rfl⟩
theorem e2_all (F : Nat → Nat → Bool) (n : Nat) : e2S F (fun _ => true) n = sumD F n n := by
  unfold e2S sumD
  refine sumN_congr fun i _ => ?_
  rw [← sum_one]
  rfl
theorem best_sub {H : Nat → Nat} {n : Nat} (hn : n ≤ 9) : (horsesL (best H n) 9).length = size16 (best H n) := by
  have h := (best_spec H (n := n) (by omega)).1.1
  rw [horsesL_len]
  unfold size16
  have e : ∀ k, cnt (fun i => (best H n).testBit i) (9 + k) = cnt (fun i => (best H n).testBit i) 9 := fun k => by
    induction k with
    | zero => rfl
    | succ k ih =>
      have hf : (best H n).testBit (9 + k) = false := by
        cases e : (best H n).testBit (9 + k) with
        | false => rfl
        | true => have := h _ e; omega
      show cnt _ (9 + k) + _ = _
      rw [ih]
      simp [hf]
  exact (e 7).symm
theorem best_size {H : Nat → Nat} {n : Nat} (hn : n ≤ 9) (h1 : 1 ≤ n) : 1 ≤ size16 (best H n) ∧ size16 (best H n) ≤ n := by
  have hs := best_spec H (n := n) (by omega)
  constructor
  · have h := hs.2 (2 ^ 0) (fun j hj => by
      rw [pow_bit] at hj
      have : 0 = j := by simpa using hj
      omega) (fun i j hij hi hj => by
      rw [pow_bit] at hi hj
      have : 0 = i := by simpa using hi
      have : 0 = j := by simpa using hj
      omega)
    rw [size_pow 0 (by omega)] at h
    omega
  · have h := hs.1.1
    unfold size16
    have e : ∀ k, n ≤ k → cnt (fun i => (best H n).testBit i) k = cnt (fun i => (best H n).testBit i) n := fun k hk => by
      obtain ⟨m, rfl⟩ : ∃ m, k = n + m := ⟨k - n, by omega⟩
      clear hk
      induction m with
      | zero => rfl
      | succ m ih =>
        have hf : (best H n).testBit (n + m) = false := by
          cases e : (best H n).testBit (n + m) with
          | false => rfl
          | true => have := h _ e; omega
        show cnt _ (n + m) + _ = _
        rw [ih]
        simp [hf]
    rw [e 16 (by omega)]
    exact cnt_le _ _
/-- Turan's bound for the greatest group -/
theorem turan_most {H : Nat → Nat} {F : Nat → Nat → Bool} {n : Nat} (hs : Sym F n) (hn : n ≤ 9) (h1 : 1 ≤ n) (hF : ∀ i j, i < n → j < n → (H i).testBit j = F i j) : ((sumD F n n / 2 : Nat) : Int) ≤ mostN n (size16 (best H n)) := by
  have hb := best_size (H := H) hn h1
  have h := turan_bound F n hs hn (size16 (best H n)) (by omega) (fun _ => true) (fun t ht hc => by
    have := (best_spec H (n := n) (by omega)).2 t (fun j hj => (ht j hj).1) (fun i j hij hi hj => by
      rw [hF i j (ht i hi).1 (ht j hj).1]
      exact hc i j hij hi hj)
    omega)
  rw [e2_all] at h
  have hc : cnt (fun _ => true) n = n := by
    have : ∀ k, cnt (fun _ => true) k = k := fun k => by
      induction k with
      | zero => rfl
      | succ k ih => simp [cnt, ih]
    exact this n
  rw [hc] at h
  unfold M2 at h
  unfold mostN
  have hz : sqN n (size16 (best H n)) (size16 (best H n)) ≤ n * n := by
    have a1 := (most_ins (n := n) (r := size16 (best H n)) (by omega)).2
    have a2 := insN_two n (size16 (best H n)) (size16 (best H n))
    have a3 := fstN_end (n := n) (r := size16 (best H n)) (by omega)
    have a4 := triN_two n
    omega
  generalize size16 (best H n) = s at *
  have e : ((n : Int) * n - (sqN n s s : Nat)) = ((n * n : Nat) : Int) - (sqN n s s : Nat) := by rw [Int.natCast_mul]
  rw [e]
  generalize n * n = q at *
  generalize sqN n s s = z at *
  have e2 : (q : Int) - (z : Int) = ((q - z : Nat) : Int) := by omega
  rw [e2, show Int.tdiv ((q - z : Nat) : Int) 2 = (((q - z) / 2 : Nat) : Int) from (Int.ofNat_tdiv (q - z) 2).symm]
  omega
end Go.Proofs.YtfbiinjpljmapaaDoor
