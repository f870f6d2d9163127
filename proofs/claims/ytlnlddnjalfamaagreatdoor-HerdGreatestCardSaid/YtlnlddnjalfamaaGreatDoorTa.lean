/-
  Naturals of package herd: elements in base 10^9 and their value. No memory here.
  Naturals of package herd in memory; trimmed, compare.
  Naturals of package herd: compare.
  Naturals of package herd: plus.
  Naturals of package herd: plus as a whole.
  Naturals of package herd: times.
-/
import Derived.Test.YtlnlddnjalfamaaGreatDoorRep
import Derived.Test.YtlnlddnjalfamaaGreatDoorChecked
import Derived.Outline
import Derived.Deep.QuietTactic
import Derived.BigQuiet
import Derived.Lib.Hide
namespace Go.Proofs.YtlnlddnjalfamaaGreatDoor

/-- the value of the first k digits in base 1000000, the least first -/
def valN (D : Nat → Int) : Nat → Int
  | 0 => 0
  | k + 1 => valN D k + D k * 1000000 ^ k
def DigN (D : Nat → Int) (n : Nat) : Prop := ∀ i, i < n → 0 ≤ D i ∧ D i < 1000000
theorem pw_posN (k : Nat) : (0 : Int) < 1000000 ^ k := Int.pow_pos (by omega)
theorem pw_succN (k : Nat) : (1000000 : Int) ^ (k + 1) = 1000000 ^ k * 1000000 := Int.pow_succ 1000000 k
theorem pw_leN {i j : Nat} (h : i ≤ j) : (1000000 : Int) ^ i ≤ 1000000 ^ j := by
  obtain ⟨d, rfl⟩ : ∃ d, j = i + d := ⟨j - i, by omega⟩
  induction d with
  | zero => exact Int.le_refl _
  | succ d ih =>
    have h1 := ih (by omega)
    have h2 := pw_succN (i + d)
    have h3 := pw_posN (i + d)
    rw [show i + (d + 1) = i + d + 1 by omega, h2]
    omega
theorem valN_congr {D E : Nat → Int} {n : Nat} (h : ∀ i, i < n → D i = E i) : valN D n = valN E n := by
  induction n with
  | zero => rfl
  | succ n ih => simp only [valN]; rw [ih (fun i hi => h i (by omega)), h n (by omega)]
theorem valN_bd {D : Nat → Int} {n : Nat} (h : DigN D n) : 0 ≤ valN D n ∧ valN D n < 1000000 ^ n := by
  induction n with
  | zero => simp [valN]
  | succ n ih =>
    have h1 := ih (fun i hi => h i (by omega))
    have h2 := h n (by omega)
    have h3 := pw_succN n
    have h4 := pw_posN n
    simp only [valN]
    rw [h3]
    have h5 : 0 ≤ D n * 1000000 ^ n := Int.mul_nonneg h2.1 (by omega)
    have h6 : D n * 1000000 ^ n ≤ 999999 * 1000000 ^ n := Int.mul_le_mul_of_nonneg_right (by omega) (by omega)
    omega
theorem valN_zeros {D : Nat → Int} {n : Nat} (d : Nat) (h : ∀ i, n ≤ i → i < n + d → D i = 0) : valN D (n + d) = valN D n := by
  induction d with
  | zero => rfl
  | succ d ih =>
    rw [← ih (fun i h1 h2 => h i h1 (by omega))]
    show valN D (n + d) + D (n + d) * 1000000 ^ (n + d) = _
    rw [h (n + d) (by omega) (by omega)]
    omega
/-- the top digit gives at least its power -/
theorem valN_top {D : Nat → Int} {n : Nat} (h : DigN D (n + 1)) (ht : D n ≠ 0) : 1000000 ^ n ≤ valN D (n + 1) := by
  have h1 := valN_bd (D := D) (n := n) (fun i hi => h i (by omega))
  have h2 := h n (by omega)
  simp only [valN]
  have h5 : 1 * 1000000 ^ n ≤ D n * 1000000 ^ n := Int.mul_le_mul_of_nonneg_right (by omega) (Int.le_of_lt (pw_posN n))
  omega
/-- two numbers, the digits above k being the same -/
theorem valN_cmp {D E : Nat → Int} {k : Nat} (d : Nat) (hD : DigN D (k + 1)) (hE : DigN E (k + 1)) (h : ∀ i, k < i → i < k + 1 + d → D i = E i) (hlt : D k < E k) : valN D (k + 1 + d) < valN E (k + 1 + d) := by
  induction d with
  | zero =>
    have h1 := valN_bd (D := D) (n := k) (fun i hi => hD i (by omega))
    have h2 := valN_bd (D := E) (n := k) (fun i hi => hE i (by omega))
    show valN D k + D k * 1000000 ^ k < valN E k + E k * 1000000 ^ k
    have h5 : (D k + 1) * 1000000 ^ k ≤ E k * 1000000 ^ k := Int.mul_le_mul_of_nonneg_right (by omega) (Int.le_of_lt (pw_posN k))
    rw [Int.add_mul, Int.one_mul] at h5
    omega
  | succ d ih =>
    have h1 := ih (fun i a b => h i a (by omega))
    show valN D (k + 1 + d) + D (k + 1 + d) * 1000000 ^ (k + 1 + d) < valN E (k + 1 + d) + E (k + 1 + d) * 1000000 ^ (k + 1 + d)
    rw [h (k + 1 + d) (by omega) (by omega)]
    omega
/-- digits without zeros at the end -/
def LeanN (D : Nat → Int) (n : Nat) : Prop := DigN D n ∧ (0 < n → D (n - 1) ≠ 0)
theorem lean_lenN {D E : Nat → Int} {n m : Nat} (hD : DigN D n) (hE : LeanN E m) (h : n < m) : valN D n < valN E m := by
  obtain ⟨m, rfl⟩ : ∃ k, m = k + 1 := ⟨m - 1, by omega⟩
  have h1 := valN_bd hD
  have h2 := valN_top hE.1 (hE.2 (by omega))
  have h3 := pw_leN (show n ≤ m by omega)
  omega
theorem lean_leN {D : Nat → Int} {n k : Nat} (hD : LeanN D n) (h : valN D n < 1000000 ^ k) : n ≤ k := by
  rcases Nat.lt_or_ge k n with h1 | h1
  · obtain ⟨n, rfl⟩ : ∃ k, n = k + 1 := ⟨n - 1, by omega⟩
    have h2 := valN_top hD.1 (hD.2 (by omega))
    have h3 := pw_leN (show k ≤ n by omega)
    omega
  · exact h1
theorem lean_zeroN {D : Nat → Int} {n : Nat} (hD : LeanN D n) : valN D n = 0 ↔ n = 0 := by
  constructor
  · intro h
    have := lean_leN (k := 0) hD (by rw [h]; simp)
    omega
  · rintro rfl; rfl
/-- digits, and zeros above them -/
def extN (D : Nat → Int) (n : Nat) : Nat → Int := fun i => if i < n then D i else 0
theorem extN_le {D : Nat → Int} {n k : Nat} (h : n ≤ k) : valN (extN D n) k = valN D n := by
  obtain ⟨d, rfl⟩ : ∃ d, k = n + d := ⟨k - n, by omega⟩
  rw [valN_zeros d (fun i h1 _ => by unfold extN; rw [if_neg (by omega)])]
  exact valN_congr (fun i hi => by unfold extN; rw [if_pos hi])
theorem valN_upd {D : Nat → Int} {j : Nat} {v : Int} {n : Nat} (h : j < n) : valN (fun i => if i = j then v else D i) n = valN D n + (v - D j) * 1000000 ^ j := by
  induction n with
  | zero => omega
  | succ n ih =>
    simp only [valN]
    by_cases e : j = n
    · subst e
      rw [if_pos rfl, valN_congr (E := D) (fun i hi => if_neg (by omega)), Int.sub_mul]
      omega
    · rw [if_neg (fun h => e h.symm), ih (by omega)]
      omega
/-- one digit of a sum -/
theorem plus_stepN {P V s c X Y a b : Int} (h : V + c * P = X + Y) (hs : s = c + a + b) : (V + (s % 1000000) * P) + (s / 1000000) * (P * 1000000) = (X + a * P) + (Y + b * P) := by
  have h1 := Int.emod_add_mul_ediv s 1000000
  generalize s % 1000000 = r at *
  generalize s / 1000000 = q at *
  subst hs
  have : c = r + 1000000 * q - a - b := by omega
  subst this
  grind
/-- one digit of a difference -/
theorem less_stepN {P V c X Y a b s c' : Int} (h : V - c * P = X - Y) (hs : s = a - c - b + c' * 1000000) : (V + s * P) - c' * (P * 1000000) = (X + a * P) - (Y + b * P) := by
  subst hs
  grind
/-- one digit of a product with a digit -/
theorem mul_stepN {Pi Pk T T0 c a b vb o s : Int} (h : T + c * (Pi * Pk) = T0 + a * vb * Pi) (hs : s = o + c + a * b) : (T + (s % 1000000 - o) * (Pi * Pk)) + (s / 1000000) * (Pi * Pk * 1000000) = T0 + a * (vb + b * Pk) * Pi := by
  have h1 := Int.emod_add_mul_ediv s 1000000
  generalize s % 1000000 = r at *
  generalize s / 1000000 = q at *
  subst hs
  have : o = r + 1000000 * q - c - a * b := by omega
  subst this
  grind
theorem mul_digitN {o c a b : Int} (ho : 0 ≤ o ∧ o < 1000000) (hc : 0 ≤ c ∧ c < 1000000) (ha : 0 ≤ a ∧ a < 1000000) (hb : 0 ≤ b ∧ b < 1000000) : 0 ≤ o + c + a * b ∧ o + c + a * b < 1000000000000 := by
  have h1 : 0 ≤ a * b := Int.mul_nonneg ha.1 hb.1
  have h2 : a * b ≤ 999999 * 999999 := Int.mul_le_mul (by omega) (by omega) hb.1 (by omega)
  omega
end Go.Proofs.YtlnlddnjalfamaaGreatDoor
namespace Go.Proofs.YtlnlddnjalfamaaGreatDoor
open Go.RowKit Go.Deep

abbrev U64At (w : World) (v : Value) (n : Nat) (D : Nat → Int) : Prop := CellsAt w v n (fun i => .int .u64 (D i))
/-- a slice of elements -/
def SuAt (w : World) (v : Value) (n : Nat) (D : Nat → Int) : Prop := ∃ a cap, v = .slice a n cap ∧ n ≤ cap ∧ (a = none → cap = 0) ∧ cap ≤ maxLen ∧ U64At w v n D
theorem SuAt.kept {w w' : World} {v : Value} {n : Nat} {D : Nat → Int} (h : SuAt w v n D) (k : Kept w w') : SuAt w' v n D := by
  obtain ⟨a, cap, h1, h2, h3, h4, h5⟩ := h
  exact ⟨a, cap, h1, h2, h3, h4, h5.kept k⟩
/-- v is the natural number z -/
def NatAt (w : World) (v : Value) (z : Int) : Prop := ∃ (n : Nat) (D : Nat → Int), SuAt w v n D ∧ LeanN D n ∧ z = valN D n ∧ n ≤ 2000
theorem NatAt.kept {w w' : World} {v : Value} {z : Int} (h : NatAt w v z) (k : Kept w w') : NatAt w' v z := by
  obtain ⟨n, D, h1, h2⟩ := h
  exact ⟨n, D, h1.kept k, h2⟩
def TrimPost (w : World) (a : Option Addr) (cap n : Nat) (D : Nat → Int) (e : Ending) (w' : World) : Prop := ∃ k, k ≤ n ∧ e = .returned (.slice a k cap) ∧ w = w' ∧ (∀ i, k ≤ i → i < n → D i = 0) ∧ (0 < k → D (k - 1) ≠ 0)
set_option maxRecDepth 100000 in
set_option maxHeartbeats 4000000 in
theorem trimmed_any (w : World) (a : Option Addr) (n cap : Nat) (D : Nat → Int) (hS : SuAt w (.slice a n cap) n D) (hn : n ≤ 1000000) :
    Calls Tryz.prog 106 #[.slice a n cap] w (TrimPost w a cap n D) := by
  obtain ⟨a', cap', e, hcap, _, hmx, ⟨a2, b, o, cap2, e2, ha, hc⟩⟩ := hS
  cases e
  cases e2
  have HC := Lib.hid hc
  clear hc
  go_enter Tryz.func106, Tryz.ntmps106
  go_wp2_with fail
  go_loopg [0] (n + 1) (fun g s0 wr => ∃ k : Nat, k ≤ n ∧ g = k + 1 ∧ s0 = .slice a k cap ∧ w = wr ∧ Hid (∀ i, k ≤ i → i < n → D i = 0))
  case atStart => exact ⟨n, Nat.le_refl _, rfl, rfl, rfl, fun i h1 h2 => absurd h1 (by omega)⟩
  case round =>
    obtain ⟨k, hk, rfl, rfl, rfl, hZ⟩ := hrel
    by_cases h0 : 0 < k
    · obtain rfl := ha (by omega)
      have t0 := HC.out (k - 1) (by omega)
      obtain ⟨x, HX⟩ : ∃ x, Hid (x = D (k - 1)) := ⟨_, rfl⟩
      rw [← HX.out] at t0
      have ec1 : IntKind.i64.wrap ((k : Int) - 1) = ((k - 1 : Nat) : Int) := by rw [IntWalk.i64_in _ (by omega)]; omega
      have n1 : k - 1 < k := by omega
      have n2 : ((k - 1 : Nat) : Int) < (k : Int) := by omega
      have n3 : (0 : Int) < (k : Int) := by omega
      have n4 : k - 1 ≤ cap := by omega
      have n5 : ((k - 1 : Nat) : Int) ≤ (cap : Int) := by omega
      by_cases hx : x = 0
      · subst hx
        have hZ2 : Hid (∀ i, k - 1 ≤ i → i < n → D i = 0) := fun i h1 h2 => by
          by_cases e : i = k - 1
          · rw [e]; exact HX.out.symm
          · exact hZ.out i (by omega) h2
        clear hZ HX
        go_wp2_with fail
        go_roundg k
        case measure => omega
        case rel => exact ⟨k - 1, by omega, by omega, rfl, rfl, hZ2.out⟩
      · have hne : (x == 0) = false := by simpa using hx
        have hxd : Hid (D (k - 1) ≠ 0) := by rw [← HX.out]; exact hx
        clear HX
        go_wp2_with fail
        go_ret
        exact ⟨k, hk, rfl, rfl, hZ.out, fun _ => hxd.out⟩
    · obtain rfl : k = 0 := by omega
      go_wp2_with fail
      go_ret
      exact ⟨0, hk, rfl, rfl, hZ.out, fun h => absurd h (by omega)⟩
end Go.Proofs.YtlnlddnjalfamaaGreatDoor
namespace Go.Proofs.YtlnlddnjalfamaaGreatDoor
open Go.RowKit Go.Deep

def CmpPost (w : World) (x y : Int) (e : Ending) (w' : World) : Prop := ∃ r : Int, e = .returned (.int .i64 r) ∧ Kept w w' ∧ (r < 0 ↔ x < y) ∧ (r = 0 ↔ x = y) ∧ -2000 ≤ r ∧ r ≤ 2000
theorem cmp_ret {w w' : World} {x y r : Int} (hk : Kept w w') (h1 : -2000 ≤ r) (h2 : r ≤ 2000) (h : (r < 0 ∧ x < y) ∨ (r = 0 ∧ x = y) ∨ (0 < r ∧ y < x)) : CmpPost w x y (.returned (.int .i64 r)) w' :=
  ⟨r, rfl, hk, by omega, by omega, h1, h2⟩
set_option maxRecDepth 100000 in
set_option maxHeartbeats 8000000 in
theorem compare_any (w : World) (va vb : Value) (x y : Int) (hx : NatAt w va x) (hy : NatAt w vb y) :
    Calls Tryz.prog 84 #[va, vb] w (CmpPost w x y) := by
  obtain ⟨n, D, ⟨a, cap, rfl, _, _, _, ⟨_, b, o, _, e, ha, hc⟩⟩, hL, rfl, hn⟩ := hx
  cases e
  obtain ⟨m, E, ⟨a2, cap2, rfl, _, _, _, ⟨_, b2, o2, _, e, ha2, hc2⟩⟩, hL2, rfl, hm⟩ := hy
  cases e
  have HC := Lib.hid hc
  have HC2 := Lib.hid hc2
  have HL := Lib.hid hL
  have HL2 := Lib.hid hL2
  clear hc hc2 hL hL2
  by_cases hnm : n = m
  · subst hnm
    go_enter Tryz.func84, Tryz.ntmps84
    go_wp2_with fail
    go_loopg [5] (n + 1) (fun g s5 wr => ∃ k : Nat, k ≤ n ∧ g = k + 1 ∧ s5 = .int .i64 ((k : Int) - 1) ∧ Kept w wr ∧ Hid (∀ i, k ≤ i → i < n → D i = E i))
    case atStart => exact ⟨n, Nat.le_refl _, rfl, rfl, Kept.refl _, fun i h1 h2 => absurd h1 (by omega)⟩
    case round =>
      obtain ⟨k, hk, rfl, rfl, hK, hZ⟩ := hrel
      by_cases h0 : 0 < k
      · obtain rfl := ha (by omega)
        obtain rfl := ha2 (by omega)
        obtain ⟨j, rfl⟩ : ∃ j, k = j + 1 := ⟨k - 1, by omega⟩
        have t0 := hK.cellSome (HC.out j (by omega))
        have t1 := hK.cellSome (HC2.out j (by omega))
        obtain ⟨p, HP⟩ : ∃ x, Hid (x = D j) := ⟨_, rfl⟩
        obtain ⟨q, HQ⟩ : ∃ x, Hid (x = E j) := ⟨_, rfl⟩
        rw [← HP.out] at t0
        rw [← HQ.out] at t1
        have ec : ((j + 1 : Nat) : Int) - 1 = (j : Int) := by omega
        rw [ec]
        have s1 : (j : Int) < (n : Int) := by omega
        have s2 : (0 : Int) ≤ (j : Int) := by omega
        clear ec
        by_cases hlt : p < q
        · have hd : decide (p < q) = true := decide_eq_true hlt
          have hV : Hid (valN D n < valN E n) := by
            have := valN_cmp (D := D) (E := E) (k := j) (n - (j + 1)) (fun i hi => HL.out.1 i (by omega)) (fun i hi => HL2.out.1 i (by omega)) (fun i h1 h2 => hZ.out i (by omega) (by omega)) (by rw [← HP.out, ← HQ.out]; exact hlt)
            rw [show j + 1 + (n - (j + 1)) = n by omega] at this
            exact this
          clear HP HQ hZ
          go_wp2_with fail
          go_quiet (fail)
          go_wp2_with fail
          go_ret
          exact cmp_ret (by repeat (first | assumption | exact Kept.refl _ | apply Kept.drew | apply Kept.drewN | apply Kept.alloc | refine Kept.trans ?_ (by assumption))) (by omega) (by omega) (Or.inl ⟨by omega, hV.out⟩)
        · have hd : decide (p < q) = false := decide_eq_false hlt
          by_cases hgt : q < p
          · have hd2 : decide (p > q) = true := decide_eq_true hgt
            have hV : Hid (valN E n < valN D n) := by
              have := valN_cmp (D := E) (E := D) (k := j) (n - (j + 1)) (fun i hi => HL2.out.1 i (by omega)) (fun i hi => HL.out.1 i (by omega)) (fun i h1 h2 => (hZ.out i (by omega) (by omega)).symm) (by rw [← HP.out, ← HQ.out]; exact hgt)
              rw [show j + 1 + (n - (j + 1)) = n by omega] at this
              exact this
            clear HP HQ hZ
            go_wp2_with fail
            go_quiet (fail)
            go_wp2_with fail
            go_quiet (fail)
            go_wp2_with fail
            go_ret
            exact cmp_ret (by repeat (first | assumption | exact Kept.refl _ | apply Kept.drew | apply Kept.drewN | apply Kept.alloc | refine Kept.trans ?_ (by assumption))) (by omega) (by omega) (Or.inr (Or.inr ⟨by omega, hV.out⟩))
          · have hd2 : decide (p > q) = false := decide_eq_false hgt
            have hZ2 : Hid (∀ i, j ≤ i → i < n → D i = E i) := fun i h1 h2 => by
              by_cases e : i = j
              · rw [e, ← HP.out, ← HQ.out]; omega
              · exact hZ.out i (by omega) h2
            clear HP HQ hZ
            go_wp2_with fail
            go_quiet (fail)
            go_wp2_with fail
            go_quiet (fail)
            go_wp2_with fail
            go_roundg (j + 1)
            case measure => omega
            case rel => exact ⟨j, by omega, rfl, rfl, (by repeat (first | assumption | exact Kept.refl _ | apply Kept.drew | apply Kept.drewN | apply Kept.alloc | refine Kept.trans ?_ (by assumption))), hZ2.out⟩
      · obtain rfl : k = 0 := by omega
        have hV : Hid (valN D n = valN E n) := valN_congr (fun i hi => hZ.out i (by omega) hi)
        go_wp2_with fail
        go_ret
        exact cmp_ret hK (by omega) (by omega) (Or.inr (Or.inl ⟨rfl, hV.out⟩))
  · have hV : Hid (((n : Int) - m < 0 ∧ valN D n < valN E m) ∨ ((n : Int) - m = 0 ∧ valN D n = valN E m) ∨ (0 < (n : Int) - m ∧ valN E m < valN D n)) := by
      rcases Nat.lt_or_ge n m with h | h
      · exact Or.inl ⟨by omega, lean_lenN HL.out.1 HL2.out h⟩
      · exact Or.inr (Or.inr ⟨by omega, lean_lenN HL2.out.1 HL.out (by omega)⟩)
    have hne : ((n : Int) != (m : Int)) = true := by simp; omega
    have hw : IntKind.i64.wrap ((n : Int) - (m : Int)) = (n : Int) - m := IntWalk.i64_in _ (by omega)
    go_enter Tryz.func84, Tryz.ntmps84
    go_wp2_with fail
    go_ret
    exact cmp_ret (Kept.refl _) (by omega) (by omega) hV.out
end Go.Proofs.YtlnlddnjalfamaaGreatDoor
namespace Go.Proofs.YtlnlddnjalfamaaGreatDoor
open Go.RowKit Go.Deep

def bigU : Int := 1000000 ^ 2000
theorem Tryz.infoU : (Tryz.prog.info? 69).map (fun i => (i.zero, i.size, i.bytes)) = some (some (.int .u64 0), 1, 8) := by kernel_rfl
theorem mkNat (m : Int) (n : Nat) (h : m = n) (hn : n ≤ 1000000) (w : World) :
    (Instr.makeSlice 130 (.int .i64 m) (.int .i64 m)).run Tryz.prog w = .ok (.slice (some ⟨w.heap.size, 0, none⟩) n n) (w.alloc (.cells (madeCells #[.int .u64 0] n) 69)) := by
  subst h
  exact run_make_row' (P := Tryz.prog) 130 69 (.int .u64 0) 8 (by kernel_rfl) Tryz.infoU rfl .i64 .i64 n (by omega) (by omega) w
def NatPost (w : World) (z : Int) (e : Ending) (w' : World) : Prop := ∃ v, e = .returned v ∧ NatAt w' v z ∧ Kept w w'
/-- the sum so far: k elements, and the carry behind them -/
structure SumN (D E : Nat → Int) (m k : Nat) (S : Nat → Int) : Prop where
  dig : DigN S k
  c0 : 0 ≤ S k
  c1 : S k ≤ 1
  z : ∀ t, k < t → S t = 0
  v : valN S k + S k * 1000000 ^ k = valN D k + valN (extN E m) k
theorem SumN.step {D E : Nat → Int} {m k : Nat} {S : Nat → Int} (h : SumN D E m k S) {s : Int} (hs : s = S k + D k + extN E m k) (h0 : 0 ≤ s) (h1 : s < 2000000) : SumN D E m (k + 1) (fun t => if t = k then s % 1000000 else if t = k + 1 then s / 1000000 else S t) where
  dig := fun i hi => by
    by_cases e : i = k
    · simp only [e, if_true]; omega
    · simp only [e, if_false, show ¬ i = k + 1 by omega]; exact h.dig i (by omega)
  c0 := by simp only [show ¬ (k + 1 = k) by omega, if_false, if_true]; omega
  c1 := by simp only [show ¬ (k + 1 = k) by omega, if_false, if_true]; omega
  z := fun t ht => by simp only [show ¬ t = k by omega, show ¬ t = k + 1 by omega, if_false]; exact h.z t (by omega)
  v := by
    have g1 : valN (fun t => if t = k then s % 1000000 else if t = k + 1 then s / 1000000 else S t) k = valN S k := valN_congr (fun j hj => by simp only [show ¬ j = k by omega, show ¬ j = k + 1 by omega, if_false])
    simp only [valN, g1, show ¬ (k + 1 = k) by omega, if_false, if_true, pw_succN]
    exact plus_stepN h.v hs
set_option maxRecDepth 100000 in
set_option maxHeartbeats 8000000 in
theorem plus_ge (w : World) (va vb : Value) (n m : Nat) (D E : Nat → Int) (hA : SuAt w va n D) (hB : SuAt w vb m E) (hD : DigN D n) (hE : DigN E m) (hn : n ≤ 2000) (hnm : m ≤ n) :
    Calls Tryz.prog 85 #[va, vb] w fun e w' => ∃ (g k : Nat) (S : Nat → Int), e = .returned (.slice (some ⟨g, 0, none⟩) k (n + 1)) ∧ SuAt w' (.slice (some ⟨g, 0, none⟩) k (n + 1)) k S ∧ LeanN S k ∧ valN S k = valN D n + valN E m ∧ Kept w w' ∧ w.heap.size ≤ g := by
  obtain ⟨a, cap, rfl, _, _, _, ⟨_, b, o, _, e, ha, hc⟩⟩ := hA
  cases e
  obtain ⟨a2, cap2, rfl, _, _, _, ⟨_, b2, o2, _, e, ha2, hc2⟩⟩ := hB
  cases e
  have HC := Lib.hid hc
  have HC2 := Lib.hid hc2
  have HD := Lib.hid hD
  have HE := Lib.hid hE
  have hmk := fun W => mkNat ((n : Int) + 1) (n + 1) (by omega) (by omega) W
  have hrow := World.rowIs_made w (.int .u64 0) (n + 1) 69
  have hk0 : Kept w (w.alloc (.cells (madeCells #[.int .u64 0] (n + 1)) 69)) := (Kept.refl w).alloc _
  clear hc hc2 hD hE
  go_enter Tryz.func85, Tryz.ntmps85
  go_wp2_with fail
  obtain ⟨r, HRR⟩ : ∃ r, Hid (r = w.heap.size) := ⟨_, rfl⟩
  have hrs : w.heap.size ≤ r := by rw [HRR.out]; exact Nat.le_refl _
  rw [← HRR.out] at hrow ⊢
  generalize w.alloc (.cells (madeCells #[.int .u64 0] (n + 1)) 69) = W0 at *
  have hS0 : Hid (SumN D E m 0 (fun _ => 0)) := ⟨fun i h => absurd h (by omega), by omega, by omega, fun t _ => rfl, by simp [valN]⟩
  clear hmk
  go_loopg [21] n (fun g s21 wr => ∃ (k : Nat) (S : Nat → Int), k ≤ n ∧ g = n - k ∧ s21 = .int .i64 k ∧ Kept w wr ∧ wr.rowIs r 69 (n + 1) (fun t => .int .u64 (S t)) ∧ Hid (SumN D E m k S))
  case atStart => exact ⟨0, fun _ => 0, Nat.zero_le _, rfl, rfl, hk0, hrow, hS0.out⟩
  case round =>
    clear hk0 hrow hS0
    obtain ⟨k, S, hk, rfl, rfl, hK, hR, hS⟩ := hrel
    by_cases hlt : k < n
    · obtain rfl := ha (by omega)
      have t0 := hK.cellSome (HC.out k hlt)
      have r0 := hR.cell (i := k) (by omega)
      have r1 := hR.cell (i := k + 1) (by omega)
      have f0 := hR.frozen k
      have f1 := hR.frozen (k + 1)
      have bd := HD.out k hlt
      have hc0 := hS.out.c0
      have hc1 := hS.out.c1
      obtain ⟨x, HX⟩ : ∃ x, Hid (x = D k) := ⟨_, rfl⟩
      obtain ⟨c, HCC⟩ : ∃ c, Hid (c = S k) := ⟨_, rfl⟩
      rw [← HX.out] at t0 bd
      rw [← HCC.out] at r0 hc0 hc1
      have s1 : (k : Int) < (n : Int) := by omega
      have s2 : (k : Int) < (n : Int) + 1 := by omega
      have s3 : (k : Int) + 1 < (n : Int) + 1 := by omega
      have s4 : (0 : Int) ≤ (k : Int) := by omega
      have w1 : IntKind.u64.wrap (c + x) = c + x := IntWalk.u64_in _ (by omega)
      by_cases hm : k < m
      · obtain rfl := ha2 (by omega)
        have t1 := hK.cellSome (HC2.out k hm)
        have be := HE.out k hm
        obtain ⟨y, HY⟩ : ∃ y, Hid (y = E k) := ⟨_, rfl⟩
        rw [← HY.out] at t1 be
        have hy : Hid (extN E m k = y) := by show extN E m k = y; rw [HY.out]; unfold extN; rw [if_pos hm]
        have w2 : IntKind.u64.wrap (c + x + y) = c + x + y := IntWalk.u64_in _ (by omega)
        have sm : (k : Int) < (m : Int) := by omega
        have hst : Hid (SumN D E m (k + 1) (fun t => if t = k then (c + x + y) % 1000000 else if t = k + 1 then (c + x + y) / 1000000 else S t)) := hS.out.step (s := c + x + y) (by rw [hy.out, ← HX.out, ← HCC.out]) (by omega) (by omega)
        clear HX HCC hy hS
        go_wp2_with fail
        go_quiet (fail)
        go_wp2_with fail
        have hkd : Kept wr (wr.drewN nq) := (Kept.refl wr).drewN nq
        have hset := ((hkd.row hR).set k (.int .u64 ((c + x + y) % 1000000))).set (k + 1) (.int .u64 ((c + x + y) / 1000000))
        have hset2 := hset.congr (g := fun t => .int .u64 ((fun t => if t = k then (c + x + y) % 1000000 else if t = k + 1 then (c + x + y) / 1000000 else S t) t)) (fun t ht => by
          by_cases e1 : t = k
          · subst e1
            simp
          · by_cases e2 : t = k + 1
            · subst e2
              simp
            · simp [e1, e2])
        have hKS : Kept w (((wr.drewN nq).setCell ⟨r, k, none⟩ (.int .u64 ((c + x + y) % 1000000))).setCell ⟨r, k + 1, none⟩ (.int .u64 ((c + x + y) / 1000000))) := ((hK.trans hkd).setCell hrs _).setCell hrs _
        go_roundg (n - (k + 1))
        case measure => omega
        case rel => exact ⟨k + 1, _, by omega, rfl, by go_num, hKS, hset2, hst.out⟩
      · have hy : Hid (extN E m k = 0) := by show extN E m k = 0; unfold extN; rw [if_neg hm]
        have sm : ¬ (k : Int) < (m : Int) := by omega
        have hst : Hid (SumN D E m (k + 1) (fun t => if t = k then (c + x) % 1000000 else if t = k + 1 then (c + x) / 1000000 else S t)) := hS.out.step (s := c + x) (by rw [hy.out, ← HX.out, ← HCC.out]; omega) (by omega) (by omega)
        clear HX HCC hy hS
        go_wp2_with fail
        go_quiet (fail)
        go_wp2_with fail
        have hkd : Kept wr (wr.drewN nq) := (Kept.refl wr).drewN nq
        have hset := ((hkd.row hR).set k (.int .u64 ((c + x) % 1000000))).set (k + 1) (.int .u64 ((c + x) / 1000000))
        have hset2 := hset.congr (g := fun t => .int .u64 ((fun t => if t = k then (c + x) % 1000000 else if t = k + 1 then (c + x) / 1000000 else S t) t)) (fun t ht => by
          by_cases e1 : t = k
          · subst e1
            simp
          · by_cases e2 : t = k + 1
            · subst e2
              simp
            · simp [e1, e2])
        have hKS : Kept w (((wr.drewN nq).setCell ⟨r, k, none⟩ (.int .u64 ((c + x) % 1000000))).setCell ⟨r, k + 1, none⟩ (.int .u64 ((c + x) / 1000000))) := ((hK.trans hkd).setCell hrs _).setCell hrs _
        go_roundg (n - (k + 1))
        case measure => omega
        case rel => exact ⟨k + 1, _, by omega, rfl, by go_num, hKS, hset2, hst.out⟩
    · obtain rfl : k = n := by omega
      have hv := hS.out.v
      have hfull : Hid (valN S (k + 1) = valN D k + valN E m) := by
        have h1 := extN_le (D := E) (n := m) (k := k) (by omega)
        rw [h1] at hv
        exact hv
      have hdig : Hid (DigN S (k + 1)) := fun i hi => by
        by_cases e : i = k
        · rw [e]; have h1 := hS.out.c0; have h2 := hS.out.c1; omega
        · exact hS.out.dig i (by omega)
      have hsu : SuAt wr (.slice (some ⟨r, 0, none⟩) (k + 1) (k + 1)) (k + 1) S := ⟨_, _, rfl, Nat.le_refl _, (fun h => by cases h), by unfold maxLen; omega, CellsAt.of_row hR⟩
      have TR := Lib.hid (trimmed_any wr _ _ _ S hsu (by omega))
      have HR := Lib.hid hR
      clear hsu hv hS hR
      go_wp2_with fail
      refine TR.out.mono ?_
      rintro e w2 ⟨q, hq, rfl, rfl, hz, ht⟩
      have HZ := Lib.hid hz
      have HT := Lib.hid ht
      clear hz ht TR
      go_wp2_with fail
      go_ret
      have hvq : valN S (k + 1) = valN S q := by
        have := valN_zeros (D := S) (n := q) (k + 1 - q) (fun i h1 h2 => HZ.out i h1 (by omega))
        rwa [show q + (k + 1 - q) = k + 1 by omega] at this
      have hcq := CellsAt.of_row (cap := k + 1) HR.out
      exact ⟨r, q, S, rfl, ⟨_, _, rfl, by omega, (fun h => by cases h), by unfold maxLen; omega, ⟨_, r, 0, _, rfl, fun _ => rfl, fun i hi => by rw [Nat.zero_add]; exact HR.out.cell (by omega)⟩⟩, ⟨fun i hi => hdig.out i (by omega), HT.out⟩, by rw [← hvq, hfull.out], hK, hrs⟩
set_option maxRecDepth 100000 in
set_option maxHeartbeats 8000000 in
theorem plus_lt (w : World) (va vb : Value) (n m : Nat) (D E : Nat → Int) (hA : SuAt w va n D) (hB : SuAt w vb m E) (hD : DigN D n) (hE : DigN E m) (hn : n ≤ 2000) (hnm : m < n) :
    Calls Tryz.prog 85 #[vb, va] w fun e w' => ∃ (g k : Nat) (S : Nat → Int), e = .returned (.slice (some ⟨g, 0, none⟩) k (n + 1)) ∧ SuAt w' (.slice (some ⟨g, 0, none⟩) k (n + 1)) k S ∧ LeanN S k ∧ valN S k = valN D n + valN E m ∧ Kept w w' ∧ w.heap.size ≤ g := by
  obtain ⟨a, cap, rfl, _, _, _, ⟨_, b, o, _, e, ha, hc⟩⟩ := hA
  cases e
  obtain ⟨a2, cap2, rfl, _, _, _, ⟨_, b2, o2, _, e, ha2, hc2⟩⟩ := hB
  cases e
  have HC := Lib.hid hc
  have HC2 := Lib.hid hc2
  have HD := Lib.hid hD
  have HE := Lib.hid hE
  have hmk := fun W => mkNat ((n : Int) + 1) (n + 1) (by omega) (by omega) W
  have hrow := World.rowIs_made w (.int .u64 0) (n + 1) 69
  have hk0 : Kept w (w.alloc (.cells (madeCells #[.int .u64 0] (n + 1)) 69)) := (Kept.refl w).alloc _
  clear hc hc2 hD hE
  go_enter Tryz.func85, Tryz.ntmps85
  go_wp2_with fail
  obtain ⟨r, HRR⟩ : ∃ r, Hid (r = w.heap.size) := ⟨_, rfl⟩
  have hrs : w.heap.size ≤ r := by rw [HRR.out]; exact Nat.le_refl _
  rw [← HRR.out] at hrow ⊢
  generalize w.alloc (.cells (madeCells #[.int .u64 0] (n + 1)) 69) = W0 at *
  have hS0 : Hid (SumN D E m 0 (fun _ => 0)) := ⟨fun i h => absurd h (by omega), by omega, by omega, fun t _ => rfl, by simp [valN]⟩
  clear hmk
  go_loopg [21] n (fun g s21 wr => ∃ (k : Nat) (S : Nat → Int), k ≤ n ∧ g = n - k ∧ s21 = .int .i64 k ∧ Kept w wr ∧ wr.rowIs r 69 (n + 1) (fun t => .int .u64 (S t)) ∧ Hid (SumN D E m k S))
  case atStart => exact ⟨0, fun _ => 0, Nat.zero_le _, rfl, rfl, hk0, hrow, hS0.out⟩
  case round =>
    clear hk0 hrow hS0
    obtain ⟨k, S, hk, rfl, rfl, hK, hR, hS⟩ := hrel
    by_cases hlt : k < n
    · obtain rfl := ha (by omega)
      have t0 := hK.cellSome (HC.out k hlt)
      have r0 := hR.cell (i := k) (by omega)
      have r1 := hR.cell (i := k + 1) (by omega)
      have f0 := hR.frozen k
      have f1 := hR.frozen (k + 1)
      have bd := HD.out k hlt
      have hc0 := hS.out.c0
      have hc1 := hS.out.c1
      obtain ⟨x, HX⟩ : ∃ x, Hid (x = D k) := ⟨_, rfl⟩
      obtain ⟨c, HCC⟩ : ∃ c, Hid (c = S k) := ⟨_, rfl⟩
      rw [← HX.out] at t0 bd
      rw [← HCC.out] at r0 hc0 hc1
      have s1 : (k : Int) < (n : Int) := by omega
      have s2 : (k : Int) < (n : Int) + 1 := by omega
      have s3 : (k : Int) + 1 < (n : Int) + 1 := by omega
      have s4 : (0 : Int) ≤ (k : Int) := by omega
      have w1 : IntKind.u64.wrap (c + x) = c + x := IntWalk.u64_in _ (by omega)
      by_cases hm : k < m
      · obtain rfl := ha2 (by omega)
        have t1 := hK.cellSome (HC2.out k hm)
        have be := HE.out k hm
        obtain ⟨y, HY⟩ : ∃ y, Hid (y = E k) := ⟨_, rfl⟩
        rw [← HY.out] at t1 be
        have hy : Hid (extN E m k = y) := by show extN E m k = y; rw [HY.out]; unfold extN; rw [if_pos hm]
        have w2 : IntKind.u64.wrap (c + x + y) = c + x + y := IntWalk.u64_in _ (by omega)
        have sm : (k : Int) < (m : Int) := by omega
        have hst : Hid (SumN D E m (k + 1) (fun t => if t = k then (c + x + y) % 1000000 else if t = k + 1 then (c + x + y) / 1000000 else S t)) := hS.out.step (s := c + x + y) (by rw [hy.out, ← HX.out, ← HCC.out]) (by omega) (by omega)
        clear HX HCC hy hS
        go_wp2_with fail
        go_quiet (fail)
        go_wp2_with fail
        have hkd : Kept wr (wr.drewN nq) := (Kept.refl wr).drewN nq
        have hset := ((hkd.row hR).set k (.int .u64 ((c + x + y) % 1000000))).set (k + 1) (.int .u64 ((c + x + y) / 1000000))
        have hset2 := hset.congr (g := fun t => .int .u64 ((fun t => if t = k then (c + x + y) % 1000000 else if t = k + 1 then (c + x + y) / 1000000 else S t) t)) (fun t ht => by
          by_cases e1 : t = k
          · subst e1
            simp
          · by_cases e2 : t = k + 1
            · subst e2
              simp
            · simp [e1, e2])
        have hKS : Kept w (((wr.drewN nq).setCell ⟨r, k, none⟩ (.int .u64 ((c + x + y) % 1000000))).setCell ⟨r, k + 1, none⟩ (.int .u64 ((c + x + y) / 1000000))) := ((hK.trans hkd).setCell hrs _).setCell hrs _
        go_roundg (n - (k + 1))
        case measure => omega
        case rel => exact ⟨k + 1, _, by omega, rfl, by go_num, hKS, hset2, hst.out⟩
      · have hy : Hid (extN E m k = 0) := by show extN E m k = 0; unfold extN; rw [if_neg hm]
        have sm : ¬ (k : Int) < (m : Int) := by omega
        have hst : Hid (SumN D E m (k + 1) (fun t => if t = k then (c + x) % 1000000 else if t = k + 1 then (c + x) / 1000000 else S t)) := hS.out.step (s := c + x) (by rw [hy.out, ← HX.out, ← HCC.out]; omega) (by omega) (by omega)
        clear HX HCC hy hS
        go_wp2_with fail
        go_quiet (fail)
        go_wp2_with fail
        have hkd : Kept wr (wr.drewN nq) := (Kept.refl wr).drewN nq
        have hset := ((hkd.row hR).set k (.int .u64 ((c + x) % 1000000))).set (k + 1) (.int .u64 ((c + x) / 1000000))
        have hset2 := hset.congr (g := fun t => .int .u64 ((fun t => if t = k then (c + x) % 1000000 else if t = k + 1 then (c + x) / 1000000 else S t) t)) (fun t ht => by
          by_cases e1 : t = k
          · subst e1
            simp
          · by_cases e2 : t = k + 1
            · subst e2
              simp
            · simp [e1, e2])
        have hKS : Kept w (((wr.drewN nq).setCell ⟨r, k, none⟩ (.int .u64 ((c + x) % 1000000))).setCell ⟨r, k + 1, none⟩ (.int .u64 ((c + x) / 1000000))) := ((hK.trans hkd).setCell hrs _).setCell hrs _
        go_roundg (n - (k + 1))
        case measure => omega
        case rel => exact ⟨k + 1, _, by omega, rfl, by go_num, hKS, hset2, hst.out⟩
    · obtain rfl : k = n := by omega
      have hv := hS.out.v
      have hfull : Hid (valN S (k + 1) = valN D k + valN E m) := by
        have h1 := extN_le (D := E) (n := m) (k := k) (by omega)
        rw [h1] at hv
        exact hv
      have hdig : Hid (DigN S (k + 1)) := fun i hi => by
        by_cases e : i = k
        · rw [e]; have h1 := hS.out.c0; have h2 := hS.out.c1; omega
        · exact hS.out.dig i (by omega)
      have hsu : SuAt wr (.slice (some ⟨r, 0, none⟩) (k + 1) (k + 1)) (k + 1) S := ⟨_, _, rfl, Nat.le_refl _, (fun h => by cases h), by unfold maxLen; omega, CellsAt.of_row hR⟩
      have TR := Lib.hid (trimmed_any wr _ _ _ S hsu (by omega))
      have HR := Lib.hid hR
      clear hsu hv hS hR
      go_wp2_with fail
      refine TR.out.mono ?_
      rintro e w2 ⟨q, hq, rfl, rfl, hz, ht⟩
      have HZ := Lib.hid hz
      have HT := Lib.hid ht
      clear hz ht TR
      go_wp2_with fail
      go_ret
      have hvq : valN S (k + 1) = valN S q := by
        have := valN_zeros (D := S) (n := q) (k + 1 - q) (fun i h1 h2 => HZ.out i h1 (by omega))
        rwa [show q + (k + 1 - q) = k + 1 by omega] at this
      have hcq := CellsAt.of_row (cap := k + 1) HR.out
      exact ⟨r, q, S, rfl, ⟨_, _, rfl, by omega, (fun h => by cases h), by unfold maxLen; omega, ⟨_, r, 0, _, rfl, fun _ => rfl, fun i hi => by rw [Nat.zero_add]; exact HR.out.cell (by omega)⟩⟩, ⟨fun i hi => hdig.out i (by omega), HT.out⟩, by rw [← hvq, hfull.out], hK, hrs⟩
end Go.Proofs.YtlnlddnjalfamaaGreatDoor
namespace Go.Proofs.YtlnlddnjalfamaaGreatDoor
open Go.RowKit Go.Deep

theorem plus_any (w : World) (va vb : Value) (x y : Int) (hx : NatAt w va x) (hy : NatAt w vb y) (hB : x + y < bigU) :
    Calls Tryz.prog 85 #[va, vb] w (NatPost w (x + y)) := by
  obtain ⟨n, D, hA, hL, rfl, hn⟩ := hx
  obtain ⟨m, E, hA2, hL2, rfl, hm⟩ := hy
  by_cases hnm : m ≤ n
  · refine (plus_ge w va vb n m D E hA hA2 hL.1 hL2.1 hn hnm).mono ?_
    rintro e w' ⟨g, k, S, rfl, h1, h2, h3, h4, _⟩
    exact ⟨_, rfl, ⟨k, S, h1, h2, h3.symm, lean_leN h2 (by rw [h3]; exact hB)⟩, h4⟩
  · refine (plus_lt w vb va m n E D hA2 hA hL2.1 hL.1 hm (by omega)).mono ?_
    rintro e w' ⟨g, k, S, rfl, h1, h2, h3, h4, _⟩
    exact ⟨_, rfl, ⟨k, S, h1, h2, by rw [h3]; omega, lean_leN h2 (by rw [h3, Int.add_comm]; exact hB)⟩, h4⟩
/-- the result is a new row -/
def NatPostN (w : World) (z : Int) (e : Ending) (w' : World) : Prop := ∃ g k c : Nat, e = .returned (.slice (some ⟨g, 0, none⟩) k c) ∧ NatAt w' (.slice (some ⟨g, 0, none⟩) k c) z ∧ Kept w w' ∧ w.heap.size ≤ g
theorem plus_new (w : World) (va vb : Value) (x y : Int) (hx : NatAt w va x) (hy : NatAt w vb y) (hB : x + y < bigU) :
    Calls Tryz.prog 85 #[va, vb] w (NatPostN w (x + y)) := by
  obtain ⟨n, D, hA, hL, rfl, hn⟩ := hx
  obtain ⟨m, E, hA2, hL2, rfl, hm⟩ := hy
  by_cases hnm : m ≤ n
  · refine (plus_ge w va vb n m D E hA hA2 hL.1 hL2.1 hn hnm).mono ?_
    rintro e w' ⟨g, k, S, rfl, h1, h2, h3, h4, h5⟩
    exact ⟨g, k, _, rfl, ⟨k, S, h1, h2, h3.symm, lean_leN h2 (by rw [h3]; exact hB)⟩, h4, h5⟩
  · refine (plus_lt w vb va m n E D hA2 hA hL2.1 hL.1 hm (by omega)).mono ?_
    rintro e w' ⟨g, k, S, rfl, h1, h2, h3, h4, h5⟩
    exact ⟨g, k, _, rfl, ⟨k, S, h1, h2, by rw [h3]; omega, lean_leN h2 (by rw [h3, Int.add_comm]; exact hB)⟩, h4, h5⟩
/-- a natural number that survives stores into the row r -/
def NatSt (w : World) (r : Nat) (v : Value) (z : Int) : Prop := NatAt w v z ∧ ∀ (a : Addr) (k c : Nat), v = .slice (some a) k c → a.block ≠ r
theorem NatSt.store {w w' : World} {r : Nat} {v : Value} {z : Int} (h : NatSt w r v z) (k : KeptX (fun k => k = r) w w') : NatSt w' r v z := by
  obtain ⟨⟨n, D, ⟨a, cap, rfl, h1, h2, h3, ⟨a2, b, o, cap2, e, ha, hc⟩⟩, h5⟩, hr⟩ := h
  cases e
  refine ⟨⟨n, D, ⟨a, cap, rfl, h1, h2, h3, ⟨a, b, o, cap, rfl, ha, fun i hi => ?_⟩⟩, h5⟩, hr⟩
  have e := ha (by omega)
  have hbr : b ≠ r := hr ⟨b, o, none⟩ n cap (by rw [e])
  exact k.cellSome (hc i hi) hbr
end Go.Proofs.YtlnlddnjalfamaaGreatDoor
namespace Go.Proofs.YtlnlddnjalfamaaGreatDoor
open Go.RowKit Go.Deep

/-- the row of a product after i elements of the first number -/
structure MulRowN (N i m : Nat) (O : Nat → Int) (x : Int) : Prop where
  dig : ∀ j, j < N → 0 ≤ O j ∧ O j < 1000000
  val : valN O N = x
  top : ∀ j, i + m ≤ j → O j = 0
/-- the row while an element is taken times those of the second number, up to k -/
structure MulInN (N i m : Nat) (O : Nat → Int) (c x : Int) (k : Nat) : Prop where
  dig : ∀ j, j < N → 0 ≤ O j ∧ O j < 1000000
  val : valN O N + c * 1000000 ^ (i + k) = x
  top : ∀ j, i + m ≤ j → O j = 0
theorem MulInN.step {N i m k : Nat} {O E : Nat → Int} {c t0 x a b s : Int} (h : MulInN N i m O c (t0 + a * valN E k * 1000000 ^ i) k) (hk : k < m) (hN : i + m < N) (hb : b = E k) (hs : s = O (i + k) + c + a * b) (hx : x = t0 + a * valN E (k + 1) * 1000000 ^ i) :
    MulInN N i m (fun j => if j = i + k then s % 1000000 else O j) (s / 1000000) x (k + 1) where
  dig := fun j hj => by
    by_cases e : j = i + k
    · simp only [e, if_true]; omega
    · simp only [e, if_false]; exact h.dig j hj
  val := by
    have h1 := h.val
    rw [Int.pow_add] at h1
    have h2 := mul_stepN h1 hs
    rw [valN_upd (by omega), hx]
    have e1 : (1000000 : Int) ^ (i + (k + 1)) = 1000000 ^ i * 1000000 ^ k * 1000000 := by rw [show i + (k + 1) = i + k + 1 by omega, pw_succN, Int.pow_add]
    have e2 : valN E (k + 1) = valN E k + b * 1000000 ^ k := by simp only [valN, hb]
    rw [e1, e2, Int.pow_add]
    exact h2
  top := fun j hj => by
    simp only [show ¬ (j = i + k) by omega, if_false]
    exact h.top j hj
theorem MulInN.last {N i m : Nat} {O : Nat → Int} {c x : Int} (h : MulInN N i m O c x m) (hN : i + m < N) (hc : 0 ≤ c ∧ c < 1000000) :
    MulRowN N (i + 1) m (fun j => if j = i + m then c else O j) x where
  dig := fun j hj => by
    by_cases e : j = i + m
    · simp only [e, if_true]; exact hc
    · simp only [e, if_false]; exact h.dig j hj
  val := by
    have h1 := h.val
    have h2 := h.top (i + m) (Nat.le_refl _)
    rw [valN_upd hN, h2]
    simp
    exact h1
  top := fun j hj => by
    simp only [show ¬ (j = i + m) by omega, if_false]
    exact h.top j (by omega)
/-- the result lies in a row of its own -/
def NatPostT (w : World) (z : Int) (e : Ending) (w' : World) : Prop := ∃ (g k c N : Nat) (f : Nat → Value), e = .returned (.slice (some ⟨g, 0, none⟩) k c) ∧ NatAt w' (.slice (some ⟨g, 0, none⟩) k c) z ∧ Kept w w' ∧ w'.rowIs g 69 N f
set_option maxRecDepth 100000 in
set_option maxHeartbeats 8000000 in
theorem times_row (w : World) (va vb : Value) (x y : Int) (hx : NatAt w va x) (hy : NatAt w vb y) (hB : x * y < bigU) :
    Calls Tryz.prog 81 #[va, vb] w (NatPostT w (x * y)) := by
  obtain ⟨n, D, ⟨a, cap, rfl, _, _, _, ⟨_, b, o, _, e, ha, hc⟩⟩, hL, rfl, hn⟩ := hx
  cases e
  obtain ⟨m, E, ⟨a2, cap2, rfl, _, _, _, ⟨_, b2, o2, _, e, ha2, hc2⟩⟩, hL2, rfl, hmm⟩ := hy
  cases e
  have HC := Lib.hid hc
  have HC2 := Lib.hid hc2
  have HD := Lib.hid hL
  have HE := Lib.hid hL2
  have HB := Lib.hid hB
  obtain ⟨N, HN⟩ : ∃ N, Hid (N = n + m) := ⟨_, rfl⟩
  have eN : (n : Int) + (m : Int) = (N : Int) := by rw [HN.out]; omega
  have hmk := fun W => mkNat (N : Int) N rfl (by rw [HN.out]; omega) W
  have hrow := World.rowIs_made w (.int .u64 0) N 69
  have hk0 : Kept w (w.alloc (.cells (madeCells #[.int .u64 0] N) 69)) := (Kept.refl w).alloc _
  clear hc hc2 hL hL2 hB
  go_enter Tryz.func81, Tryz.ntmps81
  go_wp2_with fail
  obtain ⟨r, HRR⟩ : ∃ r, Hid (r = w.heap.size) := ⟨_, rfl⟩
  have hrs : w.heap.size ≤ r := by rw [HRR.out]; exact Nat.le_refl _
  rw [← HRR.out] at hrow ⊢
  generalize w.alloc (.cells (madeCells #[.int .u64 0] N) 69) = W0 at *
  have hS0 : Hid (MulRowN N 0 m (fun _ => 0) (valN D 0 * valN E m)) := ⟨fun j hj => by omega, by
    have := valN_zeros (D := fun _ => 0) (n := 0) N (fun i _ _ => rfl)
    rw [Nat.zero_add] at this
    rw [this]
    simp [valN], fun j _ => rfl⟩
  clear hmk
  go_loopg [20] n (fun g s20 wr => ∃ (i : Nat) (O : Nat → Int), i ≤ n ∧ g = n - i ∧ s20 = .int .i64 i ∧ Kept w wr ∧ wr.rowIs r 69 N (fun t => .int .u64 (O t)) ∧ Hid (MulRowN N i m O (valN D i * valN E m)))
  case atStart => exact ⟨0, fun _ => 0, Nat.zero_le _, rfl, rfl, hk0, hrow, hS0.out⟩
  case round =>
    clear hk0 hrow hS0
    obtain ⟨i, O, hin, rfl, rfl, hK, hR, hM⟩ := hrel
    have s0 : (0 : Int) ≤ (i : Int) := by omega
    by_cases hlt : i < n
    · obtain rfl := ha (by omega)
      have t0 := hK.cellSome (HC.out i hlt)
      have hdi := HD.out.1 i hlt
      have hiN : i + m < N := by rw [HN.out]; omega
      have s1 : (i : Int) < (n : Int) := by omega
      obtain ⟨x, HX⟩ : ∃ x, Hid (x = D i) := ⟨_, rfl⟩
      rw [← HX.out] at t0 hdi
      obtain ⟨T0, HT0⟩ : ∃ t, Hid (t = valN D i * valN E m) := ⟨_, rfl⟩
      have hnext : Hid (valN D (i + 1) * valN E m = T0 + x * valN E m * 1000000 ^ i) := by
        show _ = _
        rw [HT0.out, HX.out]
        simp only [valN]
        grind
      have hI0 : Hid (MulInN N i m O 0 (T0 + x * valN E 0 * 1000000 ^ i) 0) := ⟨hM.out.dig, by rw [hM.out.val, HT0.out]; simp [valN], hM.out.top⟩
      clear hM HT0 HX
      go_wp2_with fail
      clear t0
      go_loopg [8, 27] m (fun g s8 s27 wi => ∃ (k : Nat) (c : Int) (O : Nat → Int), k ≤ m ∧ g = m - k ∧ s8 = .int .u64 c ∧ s27 = .int .i64 k ∧ 0 ≤ c ∧ c < 1000000 ∧ Kept w wi ∧ wi.rowIs r 69 N (fun t => .int .u64 (O t)) ∧ Hid (MulInN N i m O c (T0 + x * valN E k * 1000000 ^ i) k))
      case atStart => exact ⟨0, 0, O, Nat.zero_le _, rfl, rfl, rfl, by omega, by omega, hK, hR, hI0.out⟩
      case round =>
        clear hK hR hI0
        obtain ⟨k, c, O, hkm, rfl, rfl, rfl, c0, c1, hK, hR, hI⟩ := hrel
        have s0' : (0 : Int) ≤ (k : Int) := by omega
        obtain ⟨p, hp⟩ : ∃ p, p = i + k := ⟨_, rfl⟩
        have ep : (i : Int) + (k : Int) = (p : Int) := by omega
        have hpN : p < N := by omega
        have x0 := hR.cell hpN
        have x1 := hR.frozen p
        have s3 : (p : Int) < (N : Int) := by omega
        have s4 : (0 : Int) ≤ (p : Int) := by omega
        by_cases hk : k < m
        · obtain rfl := ha2 (by omega)
          have x3 := hK.cellSome (HC2.out k hk)
          have hop := hI.out.dig p hpN
          have hbk := HE.out.1 k hk
          have s2 : (k : Int) < (m : Int) := by omega
          have HST := Lib.hid (MulInN.step (s := O (i + k) + c + x * E k) hI.out hk hiN rfl rfl rfl)
          rw [← hp] at HST
          obtain ⟨y, HY⟩ : ∃ y, Hid (y = E k) := ⟨_, rfl⟩
          obtain ⟨q, HQ⟩ : ∃ q, Hid (q = O p) := ⟨_, rfl⟩
          rw [← HY.out, ← HQ.out] at HST
          rw [← HY.out] at x3 hbk
          rw [← HQ.out] at x0 hop
          have hmd := mul_digitN hop ⟨c0, c1⟩ hdi hbk
          have hpi := mul_digitN (o := 0) (c := 0) ⟨by omega, by omega⟩ ⟨by omega, by omega⟩ hdi hbk
          obtain ⟨P, HP⟩ : ∃ P, Hid (P = x * y) := ⟨_, rfl⟩
          have w1 : IntKind.u64.wrap (x * y) = P := by rw [HP.out]; exact IntWalk.u64_in _ (by omega)
          rw [← HP.out] at hmd hpi HST
          have w2 : IntKind.u64.wrap (q + P) = q + P := IntWalk.u64_in _ (by omega)
          have w3 : IntKind.u64.wrap (q + P + c) = q + c + P := by rw [show q + P + c = q + c + P by omega]; exact IntWalk.u64_in _ (by omega)
          obtain ⟨s, HS⟩ : ∃ s, Hid (s = q + c + P) := ⟨_, rfl⟩
          rw [← HS.out] at w3 HST hmd
          have hQ : 0 ≤ s / 1000000 ∧ s / 1000000 < 1000000 := by omega
          have HPI := Lib.hid hp
          obtain ⟨m1, m2⟩ := hmd
          clear hI hp hop hbk hpi HP HS HY HQ
          go_wp2_with fail
          have hR5 := (hR.set p (.int .u64 (s % 1000000))).congr (g := fun j => .int .u64 ((fun j => if j = p then s % 1000000 else O j) j)) (fun j _ => by
            by_cases e : j = p
            · simp [e]
            · simp [e])
          have hK5 : Kept w (wr.setCell ⟨r, p, none⟩ (.int .u64 (s % 1000000))) := hK.setCell hrs _
          go_roundg (m - (k + 1))
          case measure => omega
          case rel => exact ⟨k + 1, _, _, by omega, rfl, rfl, by go_num, hQ.1, hQ.2, hK5, hR5, HST.out⟩
        · obtain rfl : k = m := by omega
          have hL3 := MulInN.last hI.out hiN ⟨c0, c1⟩
          rw [← hnext.out, ← hp] at hL3
          have HL3 := Lib.hid hL3
          clear hI hL3 hp
          go_wp2_with fail
          have hR5 := (hR.set p (.int .u64 c)).congr (g := fun j => .int .u64 ((fun j => if j = p then c else O j) j)) (fun j _ => by
            by_cases e : j = p
            · simp [e]
            · simp [e])
          have hK5 : Kept w (wr.setCell ⟨r, p, none⟩ (.int .u64 c)) := hK.setCell hrs _
          go_roundg (n - (i + 1))
          case measure => omega
          case rel => exact ⟨i + 1, _, by omega, rfl, by go_num, hK5, hR5, HL3.out⟩
    · obtain rfl : i = n := by omega
      have hfull : Hid (valN O N = valN D i * valN E m) := hM.out.val
      have hdig : Hid (DigN O N) := hM.out.dig
      have hsu : SuAt wr (.slice (some ⟨r, 0, none⟩) N N) N O := ⟨_, _, rfl, Nat.le_refl _, (fun h => by cases h), by unfold maxLen; rw [HN.out]; omega, CellsAt.of_row hR⟩
      have TR := Lib.hid (trimmed_any wr _ _ _ O hsu (by rw [HN.out]; omega))
      have HR := Lib.hid hR
      clear hsu hM hR
      go_wp2_with fail
      refine TR.out.mono ?_
      rintro e w2 ⟨q, hq, rfl, rfl, hz, ht⟩
      have HZ := Lib.hid hz
      have HT := Lib.hid ht
      clear hz ht TR
      go_wp2_with fail
      go_ret
      have hvq : valN O N = valN O q := by
        have := valN_zeros (D := O) (n := q) (N - q) (fun i h1 h2 => HZ.out i h1 (by omega))
        rwa [show q + (N - q) = N by omega] at this
      have hlean : LeanN O q := ⟨fun i hi => hdig.out i (by omega), HT.out⟩
      exact ⟨_, _, _, _, _, rfl, ⟨q, O, ⟨_, _, rfl, by omega, (fun h => by cases h), by unfold maxLen; rw [HN.out]; omega, ⟨_, r, 0, _, rfl, fun _ => rfl, fun i hi => by rw [Nat.zero_add]; exact HR.out.cell (by omega)⟩⟩, hlean, by rw [← hvq, hfull.out], lean_leN hlean (by rw [← hvq, hfull.out]; exact HB.out)⟩, hK, HR.out⟩
theorem times_any (w : World) (va vb : Value) (x y : Int) (hx : NatAt w va x) (hy : NatAt w vb y) (hB : x * y < bigU) :
    Calls Tryz.prog 81 #[va, vb] w (NatPost w (x * y)) := by
  refine (times_row w va vb x y hx hy hB).mono ?_
  rintro e w' ⟨g, k, c, N, f, rfl, h1, h2, _⟩
  exact ⟨_, rfl, h1, h2⟩
end Go.Proofs.YtlnlddnjalfamaaGreatDoor
