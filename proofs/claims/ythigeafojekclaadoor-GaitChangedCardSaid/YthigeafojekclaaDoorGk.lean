/-
  Package gait: isGolay.
-/
import Derived.Test.YthigeafojekclaaDoorGj
namespace Go.Proofs.YthigeafojekclaaDoor
open Go.RowKit Go.Deep Go.Shelf

/-- the sum of the likenesses k of two strings, over the first m signs -/
def gsum (s t : ByteArray) (k m : Nat) : Int := sumZ (fun i => prodP (chr s i) (chr t i) (chr s (i + k)) (chr t (i + k))) m
theorem prodP_bound (a b c d : Int) : -2 ≤ prodP a b c d ∧ prodP a b c d ≤ 2 := by unfold prodP; split <;> (try split) <;> omega
theorem gsum_bound (s t : ByteArray) (k m : Nat) : -(2 * (m : Int)) ≤ gsum s t k m ∧ gsum s t k m ≤ 2 * m := sumZ_le fun _ _ => prodP_bound _ _ _ _
def golS (s t : ByteArray) (n : Nat) : Bool := allN (fun k => decide (k = 0) || decide (gsum s t k (n - k) = 0)) n
theorem prodP_signs (a b c d : Bool) : prodP (if a then 45 else 43) (if b then 45 else 43) (if c then 45 else 43) (if d then 45 else 43) = sg a * sg c + sg b * sg d := by
  cases a <;> cases b <;> cases c <;> cases d <;> decide
theorem gsum_rows (n k : Nat) (p q : Nat → Bool) (hk : k ≤ n) : gsum (rowS n p) (rowS n q) k (n - k) = likeN n p k + likeN n q k := by
  unfold gsum likeN lkN
  rw [← sumZ_add]
  exact sumZ_congr fun i hi => by
    rw [chr_rowS (by omega), chr_rowS (by omega), chr_rowS (by omega), chr_rowS (by omega), prodP_signs, Nat.add_comm]
/-- two rows are a Golay pair -/
def golN (n : Nat) (p q : Nat → Bool) : Bool := allN (fun k => decide (k = 0) || decide (likeN n p k + likeN n q k = 0)) n
theorem golS_rows (n : Nat) (p q : Nat → Bool) : golS (rowS n p) (rowS n q) n = golN n p q := by
  unfold golS golN
  rw [Bool.eq_iff_iff, allN_true, allN_true]
  constructor <;> (intro h k hk; have := h k hk; simp only [gsum_rows n k p q (by omega)] at this ⊢; exact this)
set_option maxRecDepth 100000 in
set_option maxHeartbeats 8000000 in
theorem isGolay_any (w : World) (s t : ByteArray) (n : Nat) (hs : s.size = n) (ht : t.size = n) (hn1 : 1 ≤ n) (hn : n ≤ 100) :
    Calls Tryd.prog 45 #[.string s, .string t] w fun e w' => e = .returned (.bool (golS s t n)) ∧ Kept w w' := by
  have PP := Lib.hid (fun W a b c d => pproduct_any W a b c d)
  go_enter Tryd.func45, Tryd.ntmps45
  go_wp2_with fail
  go_loopg [5] n (fun g s5 wr => ∃ k : Nat, k < n ∧ g = k + 1 ∧ s5 = .int .i64 k ∧ Kept w wr ∧ Hid (∀ k', k < k' → k' < n → gsum s t k' (n - k') = 0))
  case atStart => exact ⟨n - 1, by omega, by omega, by rw [show ((n - 1 : Nat) : Int) = (n : Int) - 1 by omega], Kept.refl _, fun k' h1 h2 => by omega⟩
  case round =>
    obtain ⟨k, hk, rfl, rfl, hK, hA⟩ := hrel
    by_cases h0 : k = 0
    · subst h0
      have hyes : Hid (golS s t n = true) := by
        show _ = _
        unfold golS
        rw [allN_true]
        intro k' hk'
        by_cases e : k' = 0
        · simp [e]
        · simp [hA.out k' (by omega) hk']
      go_wp2_with fail
      go_ret
      exact ⟨ret_bool hyes.out.symm, hK⟩
    · have s1 : 0 < k := by omega
      have hd : decide (0 < k) = true := decide_eq_true s1
      have ec : (n : Int) - (k : Int) = ((n - k : Nat) : Int) := by omega
      obtain ⟨m, HM⟩ : ∃ m, Hid (m = n - k) := ⟨_, rfl⟩
      have hmk : m + k = n := by rw [HM.out]; omega
      have hA2 := hA
      rw [← HM.out] at ec
      obtain ⟨Wo, rfl⟩ : ∃ Wo : World, Wo = wr := ⟨_, rfl⟩
      go_wp2_with fail
      go_loopg [6, 19] m (fun g s6 s19 wi => ∃ (i : Nat) (x : Int), i ≤ m ∧ g = m - i ∧ s19 = .int .i64 i ∧ s6 = .int .i64 x ∧ Kept w wi ∧ Hid (x = gsum s t k i) ∧ -(2 * (i : Int)) ≤ x ∧ x ≤ 2 * i)
      case atStart => exact ⟨0, 0, Nat.zero_le _, rfl, rfl, rfl, hK, rfl, by omega, by omega⟩
      case round =>
        obtain ⟨i, x, hi, rfl, rfl, rfl, hKi, hx, hb1, hb2⟩ := hrel
        by_cases hlt : i < m
        · have hi1 : i < s.size := by omega
          have hi2 : i < t.size := by omega
          have hi3 : i + k < s.size := by omega
          have hi4 : i + k < t.size := by omega
          have s2 : (i : Int) < (m : Int) := by omega
          have s3 : (0 : Int) ≤ (i : Int) := by omega
          have s4 : (i : Int) < (n : Int) := by omega
          have s5 : (i : Int) + (k : Int) < (n : Int) := by omega
          have s6 : (0 : Int) ≤ (i : Int) + (k : Int) := by omega
          have hat1 := chr_at hi1
          have hat2 := chr_at hi2
          have hat3 := chr_at hi3
          have hat4 := chr_at hi4
          have hnx : Hid (gsum s t k (i + 1) = x + prodP (chr s i) (chr t i) (chr s (i + k)) (chr t (i + k))) := by show _ = _; rw [hx.out]; rfl
          obtain ⟨hp1, hp2⟩ := prodP_bound (chr s i) (chr t i) (chr s (i + k)) (chr t (i + k))
          have PPi := Lib.hid (fun W => PP.out W (chr s i) (chr t i) (chr s (i + k)) (chr t (i + k)))
          obtain ⟨y, HY⟩ : ∃ y, Hid (y = prodP (chr s i) (chr t i) (chr s (i + k)) (chr t (i + k))) := ⟨_, rfl⟩
          rw [← HY.out] at hnx hp1 hp2 PPi
          generalize chr s i = c1 at *
          generalize chr t i = c2 at *
          generalize chr s (i + k) = c3 at *
          generalize chr t (i + k) = c4 at *
          have ei : ((i : Int) + (k : Int)).toNat = i + k := by omega
          have w1 : IntKind.i64.wrap (x + y) = x + y := IntWalk.i64_in _ (by omega)
          have w2 : IntKind.i64.wrap ((i : Int) + (k : Int)) = (i : Int) + (k : Int) := IntWalk.i64_in _ (by omega)
          clear HY hx
          go_wp2_with fail
          go_region_with (first | (go_at_call 67; refine (PPi.out _).mono ?_; rintro e w1 ⟨rfl, hk1⟩))
          all_goals
            go_wp2_with fail
            go_roundg (m - (i + 1))
            case measure => omega
            case rel => exact ⟨i + 1, x + y, by omega, rfl, by first | rfl | go_num, rfl, (by repeat (first | assumption | exact Kept.refl _ | apply Kept.drew | apply Kept.drewN | apply Kept.alloc | refine Kept.trans ?_ (by assumption))), hnx.out.symm, by omega, by omega⟩
        · obtain rfl : i = m := by omega
          clear hA2
          by_cases hz : x = 0
          · have e1 : (x != 0) = false := by simp [hz]
            have hA3 : Hid (∀ k', k - 1 < k' → k' < n → gsum s t k' (n - k') = 0) := fun k' h1 h2 => by
              by_cases e : k' = k
              · rw [e, ← HM.out, ← hx.out]; exact hz
              · exact hA.out k' (by omega) h2
            clear hx hz hA
            go_wp2_with fail
            go_roundg k
            case measure => omega
            case rel => exact ⟨k - 1, by omega, by omega, by rw [show ((k - 1 : Nat) : Int) = (k : Int) - 1 by omega], hKi, hA3.out⟩
          · have e1 : (x != 0) = true := by simpa using hz
            have hno : Hid (golS s t n = false) := by
              show _ = _
              unfold golS
              refine allN_false hk ?_
              rw [← HM.out, ← hx.out]
              simp [h0, hz]
            clear hx hz hA
            go_wp2_with fail
            go_ret
            exact ⟨ret_bool hno.out.symm, hKi⟩
end Go.Proofs.YthigeafojekclaaDoor
