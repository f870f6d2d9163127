/-
  Package herd: has, after, all, isWithin, isZero, divisor; how many horses a set has.
-/
import Derived.Test.YtfbiinjpljmapaaDoorHb
import Derived.Test.YtfbiinjpljmapaaDoorTf
import Derived.Lib.BitFns
import Derived.Deep.QuietTactic
import Derived.BigQuiet
namespace Go.Proofs.YtfbiinjpljmapaaDoor
open Go.RowKit Go.Deep

theorem nat_beq (q k : Nat) : ((q : Int) == (k : Int)) = (q == k) := by
  by_cases e : q = k
  · subst e; rw [beq_self_eq_true, beq_self_eq_true]
  · have h : ¬ (q : Int) = (k : Int) := by omega
    rw [beq_false_of_ne e, beq_false_of_ne h]
set_option maxRecDepth 100000 in
theorem has_any (w : World) (s i : Nat) (hs : s < 65536) (hi : i ≤ 15) : Calls Tryd.prog 65 #[.int .u16 s, .int .i64 i] w fun e w' => e = .returned (.bool (s.testBit i)) ∧ w = w' := by
  have hb : Hid (s.testBit i = ((s / 2 ^ i % 2 : Nat) == 1)) := bit_div s i
  have hq : s / 2 ^ i < 65536 := Nat.lt_of_le_of_lt (Nat.div_le_self _ _) hs
  have h1 := and1_16 (s / 2 ^ i) hq
  have e0 : ((s : Int) / 2 ^ i) = ((s / 2 ^ i : Nat) : Int) := by simp
  have e1 : bits .and .u16 ((s : Int) / 2 ^ i) 1 = ((s / 2 ^ i % 2 : Nat) : Int) := by rw [e0, h1]
  obtain ⟨q, HQ⟩ : ∃ q, Hid (q = s / 2 ^ i % 2) := ⟨_, rfl⟩
  rw [← HQ.out] at e1 hb
  clear e0 h1 hq HQ
  go_enter Tryd.func65, Tryd.ntmps65
  go_wp2_with fail
  go_ret
  refine ⟨ret_bool ?_, rfl⟩
  rw [hb.out]
  exact (nat_beq q 1)
theorem ret_u16 {a b : Int} (h : a = b) : Ending.returned (.int .u16 a) = .returned (.int .u16 b) := by rw [h]
theorem ret_u64 {a b : Int} (h : a = b) : Ending.returned (.int .u64 a) = .returned (.int .u64 b) := by rw [h]
theorem two_pow_int (i : Nat) : (2 : Int) ^ i = ((2 ^ i : Nat) : Int) := by simp
theorem two_cases {i : Nat} (h : i ≤ 14) : 2 ^ (i + 1) = 2 * 2 ^ i ∧ 2 ^ i ≤ 16384 ∧ 1 ≤ 2 ^ i := by
  have h1 : 2 ^ i ≤ 2 ^ 14 := Nat.pow_le_pow_right (by omega) h
  have h2 : 0 < 2 ^ i := Nat.two_pow_pos i
  exact ⟨by rw [Nat.pow_succ]; omega, by omega, by omega⟩
set_option maxRecDepth 100000 in
theorem after_any (w : World) (s i : Nat) (hs : s < 65536) (hi : i ≤ 14) : Calls Tryd.prog 62 #[.int .u16 s, .int .i64 i] w fun e w' => e = .returned (.int .u16 ((aft s i : Nat) : Int)) ∧ w = w' := by
  obtain ⟨h1, h2, h3⟩ := two_cases hi
  obtain ⟨p, HP⟩ : ∃ p : Nat, Hid (p = 2 ^ i) := ⟨2 ^ i, rfl⟩
  have e0 : (2 : Int) ^ i = (p : Int) := by rw [HP.out]; simp
  have hb : Hid (bits .andNot .u16 (s : Int) (2 * (p : Int) - 1) = ((aft s i : Nat) : Int)) := by
    show _ = _
    rw [show 2 * (p : Int) - 1 = ((allH (i + 1) : Nat) : Int) by unfold allH; rw [h1, ← HP.out]; rw [← HP.out] at h3; omega]
    exact andNot16 s (allH (i + 1)) hs (allH_lt (by omega))
  rw [← HP.out] at h2 h3
  clear h1 HP
  go_enter Tryd.func62, Tryd.ntmps62
  go_wp2_with fail
  go_ret
  exact ⟨ret_u16 hb.out, rfl⟩
set_option maxRecDepth 100000 in
theorem all_any (w : World) (a : Option Addr) (n cap : Nat) (hn : n ≤ 14) : Calls Tryd.prog 61 #[.slice a n cap] w fun e w' => e = .returned (.int .u16 ((allH n : Nat) : Int)) ∧ w = w' := by
  obtain ⟨h1, h2, h3⟩ := two_cases hn
  obtain ⟨p, HP⟩ : ∃ p : Nat, Hid (p = 2 ^ n) := ⟨2 ^ n, rfl⟩
  have e0 : (2 : Int) ^ n = (p : Int) := by rw [HP.out]; simp
  have hv : Hid ((p : Int) - 1 = ((allH n : Nat) : Int)) := by
    show _ = _
    unfold allH
    rw [← HP.out] at h3 ⊢
    omega
  rw [← HP.out] at h2 h3
  clear h1 HP
  go_enter Tryd.func61, Tryd.ntmps61
  go_wp2_with fail
  go_ret
  exact ⟨ret_u16 hv.out, rfl⟩
set_option maxRecDepth 100000 in
theorem isWithin_any (w : World) (x m : Int) : Calls Tryd.prog 42 #[.int .i64 x, .int .i64 m] w fun e w' => e = .returned (.bool (decide (1 ≤ x ∧ x ≤ m))) ∧ w = w' := by
  by_cases h1 : 1 ≤ x
  · go_enter Tryd.func42, Tryd.ntmps42
    go_wp2_with fail
    go_ret
    exact ⟨ret_bool (by by_cases e : x ≤ m <;> simp [h1, e]), rfl⟩
  · go_enter Tryd.func42, Tryd.ntmps42
    go_wp2_with fail
    go_ret
    exact ⟨ret_bool (by simp; omega), rfl⟩
set_option maxRecDepth 100000 in
theorem isZero_any (w : World) (v : Value) (x : Int) (h : NatAt w v x) : Calls Tryd.prog 75 #[v] w fun e w' => e = .returned (.bool (decide (x = 0))) ∧ w = w' := by
  obtain ⟨n, D, ⟨a, cap, rfl, _⟩, hL, rfl, hn⟩ := h
  have h0 : Hid (valN D n = 0 ↔ n = 0) := lean_zeroN hL
  clear hL
  go_enter Tryd.func75, Tryd.ntmps75
  go_wp2_with fail
  go_ret
  refine ⟨ret_bool ?_, rfl⟩
  rw [show ((n : Int) == 0) = (n == 0) from nat_beq n 0]
  by_cases e : n = 0
  · rw [decide_eq_true (h0.out.2 e)]; simp [e]
  · rw [decide_eq_false (fun h => e (h0.out.1 h))]; simp [e]
theorem pop8_cnt : ∀ n : Fin 256, Lib.pop8 (n.val : Int) = ((cnt (fun i => n.val.testBit i) 8 : Nat) : Int) := by decide +kernel
theorem cnt_shift (p q : Nat → Bool) (m k : Nat) (h : ∀ i, i < k → p (m + i) = q i) : cnt p (m + k) = cnt p m + cnt q k := by
  induction k with
  | zero => rfl
  | succ k ih =>
    rw [show m + (k + 1) = m + k + 1 by omega]
    simp only [cnt]
    rw [ih (fun i hi => h i (by omega)), h k (by omega)]
    omega
theorem cnt_eq (p q : Nat → Bool) (k : Nat) (h : ∀ i, i < k → p i = q i) : cnt p k = cnt q k := by
  induction k with
  | zero => rfl
  | succ k ih =>
    simp only [cnt]
    rw [ih (fun i hi => h i (by omega)), h k (by omega)]
theorem size16_split (q r : Nat) (hr : r < 256) : size16 (256 * q + r) = cnt (fun i => r.testBit i) 8 + cnt (fun i => q.testBit i) 8 := by
  unfold size16
  rw [show 16 = 8 + 8 from rfl, cnt_shift (q := fun i => q.testBit i) (h := fun i hi => by
    rw [show 256 = 2 ^ 8 from rfl, Nat.testBit_two_pow_mul_add _ hr, if_neg (by omega)]
    congr 1
    omega)]
  congr 1
  exact cnt_eq _ _ 8 fun i hi => by
    rw [show 256 = 2 ^ 8 from rfl, Nat.testBit_two_pow_mul_add _ hr, if_pos hi]
set_option maxRecDepth 100000 in
theorem pop16_any (w : World) (s : Nat) (hs : s < 65536) : Calls Tryd.prog 82 #[.int .u16 s] w fun e w' => e = .returned (.int .i64 ((size16 s : Nat) : Int)) ∧ Quiet w w' := by
  obtain ⟨q, HQ⟩ : ∃ q : Nat, Hid (q = s / 256) := ⟨_, rfl⟩
  obtain ⟨r, HR⟩ : ∃ r : Nat, Hid (r = s % 256) := ⟨_, rfl⟩
  have hq : q < 256 := by rw [HQ.out]; omega
  have hr : r < 256 := by rw [HR.out]; omega
  have e0 : (s : Int) / 256 = (q : Int) := by rw [HQ.out]; omega
  have e1 : bits .and .u16 (s : Int) 255 = (r : Int) := by
    rw [show (255 : Int) = ((255 : Nat) : Int) from rfl, and16 s 255 hs (by omega), HR.out, show 255 = 2 ^ 8 - 1 from rfl, Nat.and_two_pow_sub_one_eq_mod]
  have hs2 : s = 256 * q + r := by rw [HQ.out, HR.out]; omega
  have hsz : Hid (size16 s = cnt (fun i => r.testBit i) 8 + cnt (fun i => q.testBit i) 8) := by
    show _ = _
    rw [hs2]
    exact size16_split q r hr
  have hq8 := pop8_cnt ⟨q, hq⟩
  have hr8 := pop8_cnt ⟨r, hr⟩
  have cq := cnt_le (fun i => q.testBit i) 8
  have cr := cnt_le (fun i => r.testBit i) 8
  simp only at hq8 hr8
  obtain ⟨x, HX⟩ : ∃ x, Hid (x = cnt (fun i => q.testBit i) 8) := ⟨_, rfl⟩
  obtain ⟨y, HY⟩ : ∃ y, Hid (y = cnt (fun i => r.testBit i) 8) := ⟨_, rfl⟩
  rw [← HX.out] at hq8 cq hsz
  rw [← HY.out] at hr8 cr hsz
  have i0 := fun W => Lib.run_index_pop8tab (P := Tryd.prog) W 9 .u16 (q : Int) Tryd.underlying9 (by omega) (by omega)
  have i1 := fun W => Lib.run_index_pop8tab (P := Tryd.prog) W 9 .u16 (r : Int) Tryd.underlying9 (by omega) (by omega)
  rw [hq8] at i0
  rw [hr8] at i1
  have w1 : IntKind.u8.wrap ((x : Int) + y) = (x : Int) + y := IntWalk.u8_in _ (by omega)
  clear hs2 HQ HR hq8 hr8 HX HY
  go_enter Tryd.func82, Tryd.ntmps82
  go_wp2_with fail
  go_quiet (fail)
  go_wp2_with fail
  go_ret
  exact ⟨ret_int (by rw [hsz.out]; omega), (Quiet.refl w).drewN _⟩
theorem size16_le (s : Nat) : size16 s ≤ 16 := cnt_le _ _
set_option maxRecDepth 100000 in
theorem size_any (w : World) (s : Nat) (hs : s < 65536) : Calls Tryd.prog 64 #[.int .u16 s] w fun e w' => e = .returned (.int .i64 ((size16 s : Nat) : Int)) ∧ Quiet w w' := by
  have P := Lib.hid (fun W => pop16_any W s hs)
  go_enter Tryd.func64, Tryd.ntmps64
  go_wp2_with (first | (go_at_call 82; refine (P.out _).mono ?_; rintro e w1 ⟨rfl, hq⟩))
  go_ret
  exact ⟨rfl, hq⟩
set_option maxRecDepth 100000 in
theorem divisor_any (w : World) (x y : Nat) (hx : x < 1000000000000000000) (hy : y < 1000000000000000000) : Calls Tryd.prog 85 #[.int .u64 x, .int .u64 y] w fun e w' => e = .returned (.int .u64 ((Nat.gcd y x : Nat) : Int)) ∧ Quiet w w' := by
  go_enter Tryd.func85, Tryd.ntmps85
  go_wp2_with fail
  go_loopg [0, 1] (y + 1) (fun g s0 s1 wr => ∃ a b : Nat, g = b + 1 ∧ s0 = .int .u64 a ∧ s1 = .int .u64 b ∧ Quiet w wr ∧ a < 1000000000000000000 ∧ b < 1000000000000000000 ∧ Hid (Nat.gcd b a = Nat.gcd y x))
  case atStart => exact ⟨x, y, rfl, rfl, rfl, Quiet.refl w, hx, hy, rfl⟩
  case round =>
    obtain ⟨a, b, rfl, rfl, rfl, hQ, ha, hb, hg⟩ := hrel
    by_cases h0 : b = 0
    · subst h0
      go_wp2_with fail
      go_ret
      exact ⟨ret_u64 (by rw [← hg.out, Nat.gcd_zero_left]), hQ⟩
    · have n0 : ¬ (b : Int) = 0 := by omega
      have n1 : ((b : Int) != 0) = true := by simp; omega
      obtain ⟨r, HR⟩ : ∃ r : Nat, Hid (r = a % b) := ⟨_, rfl⟩
      have hr : r < b := by rw [HR.out]; exact Nat.mod_lt _ (by omega)
      have e1 : Int.tmod (a : Int) (b : Int) = (r : Int) := by rw [HR.out]; exact (Int.ofNat_tmod a b).symm
      have hg2 : Hid (Nat.gcd r b = Nat.gcd y x) := by rw [HR.out, ← hg.out]; exact (Nat.gcd_rec b a).symm
      clear HR hg
      go_wp2_with fail
      go_quiet (fail)
      go_wp2_with fail
      go_roundg (r + 1)
      case measure => omega
      case rel => exact ⟨b, r, rfl, rfl, rfl, hQ.drewN _, hb, by omega, hg2.out⟩
end Go.Proofs.YtfbiinjpljmapaaDoor
