/-
  What leaves a Golay pair one: in plain numbers. The reference's Back.
-/
import Derived.Test.YtcgbfhjefepafaaDoorMj
import Derived.Test.YtcgbfhjefepafaaDoorMg
namespace Go.Proofs.YtcgbfhjefepafaaDoor
open Go.RowKit Go.Deep Go.Shelf

theorem gol_true {n : Nat} {p q : Nat → Bool} : golN n p q = true ↔ ∀ k, 0 < k → k < n → likeN n p k + likeN n q k = 0 := by
  unfold golN
  rw [allN_true]
  constructor
  · intro h k h0 hk
    have := h k hk
    simpa [show ¬ k = 0 by omega] using this
  · intro h k hk
    by_cases h0 : k = 0
    · simp [h0]
    · have := h k (by omega) hk
      simp [this]
theorem gol_swap {n : Nat} {p q : Nat → Bool} (h : golN n p q = true) : golN n q p = true :=
  gol_true.2 fun k h0 hk => by have := gol_true.1 h k h0 hk; omega
theorem gol_back1 {n : Nat} {p q : Nat → Bool} (h : golN n p q = true) : golN n (fun i => p (n - 1 - i)) q = true :=
  gol_true.2 fun k h0 hk => by rw [likeN_back n p (by omega)]; exact gol_true.1 h k h0 hk
theorem gol_back2 {n : Nat} {p q : Nat → Bool} (h : golN n p q = true) : golN n p (fun i => q (n - 1 - i)) = true :=
  gol_true.2 fun k h0 hk => by rw [likeN_back n q (by omega)]; exact gol_true.1 h k h0 hk
theorem gol_not2 {n : Nat} {p q : Nat → Bool} (h : golN n p q = true) : golN n p (fun i => !q i) = true :=
  gol_true.2 fun k h0 hk => by rw [likeN_not]; exact gol_true.1 h k h0 hk
def catP (n : Nat) (p q : Nat → Bool) (i : Nat) : Bool := if i < n then p i else q (i - n)
theorem gol_double {n : Nat} {p q : Nat → Bool} (h : golN n p q = true) : golN (n + n) (catP n p q) (catP n p (fun i => !q i)) = true := by
  refine gol_true.2 fun k h0 hk => ?_
  have hF : likeN (n + n) (catP n p q) k + likeN (n + n) (catP n p (fun i => !q i)) k = sumZ (fun i => sg (catP n p q i) * sg (catP n p q (k + i)) + sg (catP n p (fun i => !q i) i) * sg (catP n p (fun i => !q i) (k + i))) (n + n - k) := by
    rw [sumZ_add]; rfl
  rw [hF]
  have hmid : ∀ i, i < n → n ≤ k + i → sg (catP n p q i) * sg (catP n p q (k + i)) + sg (catP n p (fun i => !q i) i) * sg (catP n p (fun i => !q i) (k + i)) = 0 := fun i h1 h2 => by
    unfold catP
    rw [if_pos h1, if_neg (show ¬ k + i < n by omega), if_pos h1, if_neg (show ¬ k + i < n by omega), sg_not, Int.mul_neg]
    omega
  by_cases hkn : n ≤ k
  · rw [sumZ_congr (g := fun _ => 0) (fun i hi => hmid i (by omega) (by omega)), sumZ_const]
    simp
  · have h2 := gol_true.1 h k h0 (by omega)
    rw [show n + n - k = (n - k) + (k + (n - k)) by omega, sumZ_split, sumZ_split]
    have a1 : sumZ (fun i => sg (catP n p q i) * sg (catP n p q (k + i)) + sg (catP n p (fun i => !q i) i) * sg (catP n p (fun i => !q i) (k + i))) (n - k) = likeN n p k + likeN n p k := by
      rw [sumZ_congr (g := fun i => sg (p i) * sg (p (k + i)) + sg (p i) * sg (p (k + i))) (fun i hi => by
        unfold catP
        rw [if_pos (show i < n by omega), if_pos (show k + i < n by omega), if_pos (show i < n by omega), if_pos (show k + i < n by omega)]), sumZ_add]
      rfl
    have a2 : sumZ (fun i => (fun i => sg (catP n p q i) * sg (catP n p q (k + i)) + sg (catP n p (fun i => !q i) i) * sg (catP n p (fun i => !q i) (k + i))) (n - k + i)) k = 0 := by
      rw [sumZ_congr (g := fun _ => 0) (fun i hi => hmid (n - k + i) (by omega) (by omega)), sumZ_const]
      simp
    have a3 : sumZ (fun i => (fun i => (fun i => sg (catP n p q i) * sg (catP n p q (k + i)) + sg (catP n p (fun i => !q i) i) * sg (catP n p (fun i => !q i) (k + i))) (n - k + i)) (k + i)) (n - k) = likeN n q k + likeN n q k := by
      rw [sumZ_congr (g := fun i => sg (q i) * sg (q (k + i)) + sg (q i) * sg (q (k + i))) (fun i hi => by
        dsimp only
        unfold catP
        rw [if_neg (show ¬ n - k + (k + i) < n by omega), if_neg (show ¬ k + (n - k + (k + i)) < n by omega), if_neg (show ¬ n - k + (k + i) < n by omega), if_neg (show ¬ k + (n - k + (k + i)) < n by omega), show n - k + (k + i) - n = i by omega, show k + (n - k + (k + i)) - n = k + i by omega, sg_not, sg_not, Int.neg_mul_neg]), sumZ_add]
      rfl
    rw [a1, a2, a3]
    omega
theorem min_row (n : Nat) (q : Nat → Bool) : minS (rowS n q) = rowS n (fun i => !q i) := by
  unfold minS
  rw [rowS_size]
  refine rowS_congr fun i hi => ?_
  rw [chr_rowS hi]
  cases q i <;> rfl
theorem cat_row (n : Nat) (p q : Nat → Bool) : rowS n p ++ rowS n q = rowS (n + n) (catP n p q) := rowS_append n n p q
set_option maxRecDepth 100000 in
set_option maxHeartbeats 4000000 in
theorem rBack_any (w : World) (n : Nat) (p : Nat → Bool) (hn : n ≤ 1000) :
    Calls Tryd.prog 55 #[.string (rowS n p)] w fun e w' => e = .returned (.string (rowS n (fun i => p (n - 1 - i)))) ∧ w = w' := by
  obtain ⟨S, HS⟩ : ∃ S, Hid (S = rowS n p) := ⟨_, rfl⟩
  have hSs : S.size = n := by rw [HS.out]; exact rowS_size _ _
  obtain ⟨b, HB⟩ : ∃ b : Nat → Bool, Hid (b = fun i => p (n - 1 - i)) := ⟨_, rfl⟩
  rw [← HS.out, ← HB.out]
  go_enter Tryd.func55, Tryd.ntmps55
  go_wp2_with fail
  go_loopg [3, 4] n (fun g s3 s4 wr => ∃ i : Nat, i ≤ n ∧ g = n - i ∧ s3 = .string (rowS i b) ∧ s4 = .int .i64 ((n : Int) - 1 - (i : Int)) ∧ w = wr)
  case atStart => exact ⟨0, Nat.zero_le _, rfl, rfl, by first | rfl | go_num, rfl⟩
  case round =>
    obtain ⟨i, hi, rfl, rfl, rfl, rfl⟩ := hrel
    have hsz : (rowS i b).size = i := rowS_size _ _
    by_cases hlt : i < n
    · obtain ⟨j, hj⟩ : ∃ j : Nat, j + 1 + i = n := ⟨n - 1 - i, by omega⟩
      have ej : (n : Int) - 1 - (i : Int) = (j : Int) := by omega
      have hx : Hid (S.extract j (j + 1) = rowS 1 (fun _ => b i)) := by
        show _ = _
        rw [HS.out, HB.out, rowS_extract _ _ _ _ (by omega), show j + 1 - j = 1 by omega]
        exact rowS_congr fun t ht => by dsimp only; rw [show n - 1 - i = j by omega, show j + t = j by omega]
      have hsn := Lib.hid (row_snoc i b)
      have hres : Hid (rowS (i + 1) b = rowS i b ++ S.extract j (j + 1)) := by show _ = _; rw [hx.out]; exact hsn.out
      have hxs : (S.extract j (j + 1)).size = 1 := by rw [hx.out]; exact rowS_size _ _
      have s1 : (j : Int) ≥ 0 := by omega
      have s2 : (0 : Int) ≤ (j : Int) := by omega
      have s7 : (j : Int) ≤ (j : Int) + 1 := by omega
      have s8 : (j : Int) + 1 ≤ (n : Int) := by omega
      have s5 : ¬ 9223372036854775807 < i + 1 := by omega
      have hw1 : IntKind.i64.wrap (j : Int) = (j : Int) := IntWalk.i64_in _ (by omega)
      have hw2 : IntKind.i64.wrap ((j : Int) + 1) = (j : Int) + 1 := IntWalk.i64_in _ (by omega)
      have et : ((j : Int) + 1).toNat = j + 1 := by omega
      obtain ⟨R', HR'⟩ : ∃ R', R' = rowS (i + 1) b := ⟨_, rfl⟩
      rw [← HR'] at hres
      generalize rowS i b = R at *
      rw [ej]
      clear hsn hx HS HB
      go_wp2_with fail
      go_roundg (n - (i + 1))
      case measure => omega
      case rel => exact ⟨i + 1, by omega, rfl, by rw [← HR', hres.out], by rw [show (n : Int) - 1 - ((i + 1 : Nat) : Int) = (j : Int) - 1 by omega], rfl⟩
    · obtain rfl : i = n := by omega
      have s1 : ¬ ((i : Int) - 1 - (i : Int)) ≥ 0 := by omega
      go_wp2_with fail
      go_ret
      exact ⟨rfl, rfl⟩
end Go.Proofs.YtcgbfhjefepafaaDoor
