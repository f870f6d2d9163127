/-
  Goodman's count of triples (plain numbers).
  How many groups of three there are, as a sum; who gets along by bits.
-/
import Derived.Test.YtlnlddnjalfamaaGreatDoorRep
import Derived.Test.YtlnlddnjalfamaaGreatDoorJh
import Derived.Test.YtlnlddnjalfamaaGreatDoorJf
namespace Go.Proofs.YtlnlddnjalfamaaGreatDoor

theorem sumN_congr {f g : Nat → Nat} {n : Nat} (h : ∀ i, i < n → f i = g i) : sumN f n = sumN g n := by
  induction n with
  | zero => rfl
  | succ n ih => simp only [sumN]; rw [ih (fun i hi => h i (by omega)), h n (by omega)]
theorem sumN_add (f g : Nat → Nat) (n : Nat) : sumN (fun i => f i + g i) n = sumN f n + sumN g n := by
  induction n with
  | zero => rfl
  | succ n ih => simp only [sumN]; omega
theorem sumN_mul (c : Nat) (f : Nat → Nat) (n : Nat) : sumN (fun i => c * f i) n = c * sumN f n := by
  induction n with
  | zero => rfl
  | succ n ih => simp only [sumN, ih, Nat.mul_add]
theorem sumN_zero (n : Nat) : sumN (fun _ => 0) n = 0 := by
  induction n with
  | zero => rfl
  | succ n ih => simp only [sumN, ih]
theorem sumN_swap (f : Nat → Nat → Nat) (n m : Nat) : sumN (fun i => sumN (fun j => f i j) m) n = sumN (fun j => sumN (fun i => f i j) n) m := by
  induction n with
  | zero => simp only [sumN, sumN_zero]
  | succ n ih => simp only [sumN, ih, sumN_add]
theorem sumN_cnt (p : Nat → Bool) (n : Nat) : sumN (fun i => if p i then 1 else 0) n = cnt p n := by
  induction n with
  | zero => rfl
  | succ n ih => simp only [sumN, cnt, ih]
def S3 (φ : Nat → Nat → Nat → Nat) (n : Nat) : Nat := sumN (fun i => sumN (fun j => sumN (fun k => φ i j k) n) n) n
theorem S3_congr {φ ψ : Nat → Nat → Nat → Nat} {n : Nat} (h : ∀ i j k, i < n → j < n → k < n → φ i j k = ψ i j k) : S3 φ n = S3 ψ n :=
  sumN_congr fun i hi => sumN_congr fun j hj => sumN_congr fun k hk => h i j k hi hj hk
theorem S3_add (φ ψ : Nat → Nat → Nat → Nat) (n : Nat) : S3 (fun i j k => φ i j k + ψ i j k) n = S3 φ n + S3 ψ n := by
  simp only [S3, sumN_add]
theorem S3_mul (c : Nat) (φ : Nat → Nat → Nat → Nat) (n : Nat) : S3 (fun i j k => c * φ i j k) n = c * S3 φ n := by
  simp only [S3, sumN_mul]
theorem S3_12 (φ : Nat → Nat → Nat → Nat) (n : Nat) : S3 (fun i j k => φ j i k) n = S3 φ n := by
  unfold S3
  rw [sumN_swap]
theorem S3_23 (φ : Nat → Nat → Nat → Nat) (n : Nat) : S3 (fun i j k => φ i k j) n = S3 φ n := by
  unfold S3
  exact sumN_congr fun i _ => sumN_swap _ _ _
def one (b : Bool) : Nat := if b then 1 else 0
def monoB (F : Nat → Nat → Bool) (i j k : Nat) : Bool := (F i j == F i k) && (F i j == F j k)
def risB (i j k : Nat) : Bool := decide (i < j) && decide (j < k)
def disB (i j k : Nat) : Bool := !decide (i = j) && !decide (i = k) && !decide (j = k)
theorem ris_six (i j k : Nat) : one (disB i j k) = one (risB i j k) + one (risB i k j) + one (risB j i k) + one (risB j k i) + one (risB k i j) + one (risB k j i) := by
  unfold one disB risB
  by_cases h1 : i < j <;> by_cases h2 : j < k <;> by_cases h3 : i < k <;> by_cases h4 : j < i <;> by_cases h5 : k < j <;> by_cases h6 : k < i <;> simp [h1, h2, h3, h4, h5, h6] <;> omega
theorem one_and (a b : Bool) : one (a && b) = one a * one b := by cases a <;> cases b <;> rfl
structure Sym (F : Nat → Nat → Bool) (n : Nat) : Prop where
  sym : ∀ i j, i < n → j < n → F i j = F j i
  irr : ∀ i, i < n → F i i = false
theorem mono_12 {F : Nat → Nat → Bool} {n i j k : Nat} (h : Sym F n) (hi : i < n) (hj : j < n) : monoB F i j k = monoB F j i k := by
  unfold monoB
  rw [h.sym j i hj hi]
  cases F i j <;> cases F i k <;> cases F j k <;> rfl
theorem mono_23 {F : Nat → Nat → Bool} {n i j k : Nat} (h : Sym F n) (hj : j < n) (hk : k < n) : monoB F i j k = monoB F i k j := by
  unfold monoB
  rw [h.sym k j hk hj]
  cases F i j <;> cases F i k <;> cases F j k <;> rfl
def tP (F : Nat → Nat → Bool) (i j k : Nat) : Nat := one (risB i j k && monoB F i j k)
def uP (F : Nat → Nat → Bool) (i j k : Nat) : Nat := one (disB i j k && monoB F i j k)
def xP (F : Nat → Nat → Bool) (i j k : Nat) : Nat := one (disB i j k && !(F i j == F i k))
theorem six (F : Nat → Nat → Bool) (n : Nat) (h : Sym F n) : S3 (uP F) n = 6 * S3 (tP F) n := by
  have e : S3 (uP F) n = S3 (fun i j k => tP F i j k + tP F i k j + tP F j i k + tP F j k i + tP F k i j + tP F k j i) n := S3_congr fun i j k hi hj hk => by
    unfold uP tP
    simp only [one_and]
    rw [← mono_23 (F := F) (i := i) (j := j) (k := k) h hj hk, ← mono_12 (F := F) (i := i) (j := j) (k := k) h hi hj,
      show monoB F j k i = monoB F i j k by rw [mono_23 h hk hi, ← mono_12 h hi hj],
      show monoB F k i j = monoB F i j k by rw [mono_12 h hk hi, ← mono_23 h hj hk],
      show monoB F k j i = monoB F i j k by rw [mono_12 h hk hj, mono_23 h hk hi, ← mono_12 h hi hj]]
    rw [ris_six]
    simp only [Nat.add_mul]
  rw [e]
  simp only [S3_add]
  have a1 : S3 (fun i j k => tP F i k j) n = S3 (tP F) n := S3_23 (tP F) n
  have a2 : S3 (fun i j k => tP F j i k) n = S3 (tP F) n := S3_12 (tP F) n
  have a3 : S3 (fun i j k => tP F j k i) n = S3 (tP F) n := (S3_12 (fun i j k => tP F i k j) n).trans a1
  have a4 : S3 (fun i j k => tP F k i j) n = S3 (tP F) n := (S3_23 (fun i j k => tP F j i k) n).trans a2
  have a5 : S3 (fun i j k => tP F k j i) n = S3 (tP F) n := (S3_12 (fun i j k => tP F k i j) n).trans a4
  have a0 : S3 (fun i j k => tP F i j k) n = S3 (tP F) n := rfl
  have a6 : S3 (fun i j => tP F j i) n = S3 (tP F) n := a2
  omega
theorem two_three (F : Nat → Nat → Bool) (n : Nat) (h : Sym F n) : 2 * S3 (uP F) n + 3 * S3 (xP F) n = 2 * S3 (fun i j k => one (disB i j k)) n := by
  have e : S3 (fun i j k => 2 * one (disB i j k)) n = S3 (fun i j k => 2 * uP F i j k + xP F i j k + xP F j i k + xP F k i j) n := S3_congr fun i j k hi hj hk => by
    unfold uP xP monoB
    rw [h.sym j i hj hi, h.sym k i hk hi, h.sym k j hk hj, show disB j i k = disB i j k by unfold disB; by_cases h1 : i = j <;> by_cases h2 : i = k <;> by_cases h3 : j = k <;> simp [h1, h2, h3] <;> omega,
      show disB k i j = disB i j k by unfold disB; by_cases h1 : i = j <;> by_cases h2 : i = k <;> by_cases h3 : j = k <;> simp [h1, h2, h3] <;> omega]
    cases disB i j k <;> cases F i j <;> cases F i k <;> cases F j k <;> rfl
  rw [S3_mul] at e
  rw [e]
  simp only [S3_add, S3_mul]
  have a2 : S3 (fun i j k => xP F j i k) n = S3 (xP F) n := S3_12 (xP F) n
  have a4 : S3 (fun i j k => xP F k i j) n = S3 (xP F) n := (S3_23 (fun i j k => xP F j i k) n).trans a2
  have a0 : S3 (fun i j k => xP F i j k) n = S3 (xP F) n := rfl
  have a6 : S3 (fun i j => xP F j i) n = S3 (xP F) n := a2
  omega
/-- how many others i gets along with -/
def degF (F : Nat → Nat → Bool) (n i : Nat) : Nat := cnt (F i) n
theorem cnt_ne (n i : Nat) (hi : i < n) (p : Nat → Bool) (h : p i = false) : cnt (fun k => !decide (i = k) && !p k) n + cnt p n + 1 = n := by
  have h2 : ∀ m, m ≤ n → cnt (fun k => !decide (i = k) && !p k) m + cnt p m + (if i < m then 1 else 0) = m := fun m hm => by
    induction m with
    | zero => simp [cnt]
    | succ m ih =>
      have := ih (by omega)
      simp only [cnt]
      by_cases e : i = m
      · subst e
        simp [h] at this ⊢
        omega
      · have e2 : (if i < m + 1 then 1 else 0) = (if i < m then 1 else 0) := by
          by_cases h3 : i < m
          · rw [if_pos h3, if_pos (by omega)]
          · rw [if_neg h3, if_neg (by omega)]
        rw [e2]
        by_cases hp : p m = true
        · simp [e, hp]; omega
        · simp [e, hp]; omega
  have := h2 n (Nat.le_refl _)
  rw [if_pos hi] at this
  exact this
theorem sum_prod (f g : Nat → Nat) (n m : Nat) : sumN (fun j => sumN (fun k => f j * g k) m) n = sumN f n * sumN g m := by
  induction n with
  | zero => simp [sumN]
  | succ n ih => simp only [sumN]; rw [ih, sumN_mul, Nat.add_mul]
theorem sum_one (p : Nat → Bool) (n : Nat) : sumN (fun i => one (p i)) n = cnt p n := sumN_cnt p n
/-- for one i: ordered pairs of others of which i gets along with exactly one -/
theorem xP_row (F : Nat → Nat → Bool) (n i : Nat) (h : Sym F n) (hi : i < n) : sumN (fun j => sumN (fun k => xP F i j k) n) n = 2 * (degF F n i * (n - 1 - degF F n i)) := by
  have e : sumN (fun j => sumN (fun k => xP F i j k) n) n = sumN (fun j => sumN (fun k => one (F i j) * one (!decide (i = k) && !F i k)) n) n + sumN (fun j => sumN (fun k => one (!decide (i = j) && !F i j) * one (F i k)) n) n := by
    rw [← sumN_add]
    refine sumN_congr fun j _ => ?_
    rw [← sumN_add]
    refine sumN_congr fun k _ => ?_
    unfold xP disB
    have hI := h.irr i hi
    by_cases h1 : i = j
    · subst h1
      by_cases h2 : i = k
      · subst h2; simp [hI, one]
      · simp [hI, one, h2]
    · by_cases h2 : i = k
      · subst h2
        simp [hI, one, h1]
      · by_cases h3 : j = k
        · subst h3
          cases F i j <;> simp [one, h1]
        · cases F i j <;> cases F i k <;> simp [one, h1, h2, h3]
  rw [e, sum_prod, sum_prod, sum_one, sum_one]
  have h2 := cnt_ne n i hi (F i) (h.irr i hi)
  have h3 : cnt (fun k => !decide (i = k) && !F i k) n = n - 1 - degF F n i := by unfold degF; omega
  rw [h3]
  unfold degF
  rw [Nat.mul_comm (n - 1 - cnt (F i) n)]
  omega
theorem dis_all : (List.range 10).all (fun n => S3 (fun i j k => one (disB i j k)) n == n * (n - 1) * (n - 2)) = true := by decide +kernel
/-- Goodman's count -/
theorem goodman (F : Nat → Nat → Bool) (n : Nat) (h : Sym F n) (hn : n ≤ 9) : 2 * S3 (tP F) n + sumN (fun i => degF F n i * (n - 1 - degF F n i)) n = n * (n - 1) * (n - 2) / 3 ∧ n * (n - 1) * (n - 2) ≤ 504 := by
  have h1 := six F n h
  have h2 := two_three F n h
  have h3 := dis_all
  rw [List.all_eq_true] at h3
  have h4 := h3 n (by simp; omega)
  simp only [beq_iff_eq] at h4
  rw [h4] at h2
  have h5 : S3 (xP F) n = 2 * sumN (fun i => degF F n i * (n - 1 - degF F n i)) n := by
    unfold S3
    rw [← sumN_mul]
    exact sumN_congr fun i hi => xP_row F n i h hi
  have h6 : (List.range 10).all (fun n => decide (n * (n - 1) * (n - 2) ≤ 504)) = true := by decide +kernel
  rw [List.all_eq_true] at h6
  have h7 := h6 n (by simp; omega)
  simp only [decide_eq_true_eq] at h7
  generalize n * (n - 1) * (n - 2) = N at *
  omega
/-- of six there are three of one kind -/
theorem six_three (F : Nat → Nat → Bool) (n : Nat) (h : Sym F n) (hn : n ≤ 9) (h6 : 6 ≤ n) : 0 < S3 (tP F) n := by
  have h1 := (goodman F n h hn).1
  have hb : ∀ i, i < n → degF F n i * (n - 1 - degF F n i) ≤ (n - 1) * (n - 1) / 4 := fun i hi => by
    have hd : degF F n i ≤ n - 1 := by
      have := cnt_ne n i hi (F i) (h.irr i hi)
      unfold degF
      omega
    have hall : (List.range 9).all (fun m => (List.range 9).all fun d => decide (m < d) || decide (d * (m - d) ≤ m * m / 4)) = true := by decide +kernel
    rw [List.all_eq_true] at hall
    have h2 := hall (n - 1) (by simp; omega)
    rw [List.all_eq_true] at h2
    have h3 := h2 (degF F n i) (by simp; omega)
    simp at h3
    omega
  have h2 := sumN_le _ _ n hb
  have h3 : n = 6 ∨ n = 7 ∨ n = 8 ∨ n = 9 := by omega
  rcases h3 with rfl | rfl | rfl | rfl <;> omega
end Go.Proofs.YtlnlddnjalfamaaGreatDoor
namespace Go.Proofs.YtlnlddnjalfamaaGreatDoor
open Go.RowKit Go.Deep

/-- how many of these sets have s horses -/
def cntS (s : Nat) (l : List Nat) : Nat := (l.filter fun x => size16 x == s).length
theorem cntS_app (s : Nat) (l k : List Nat) : cntS s (l ++ k) = cntS s l + cntS s k := by
  unfold cntS
  rw [List.filter_append, List.length_append]
theorem cntS_cons (s x : Nat) (l : List Nat) : cntS s (x :: l) = one (size16 x == s) + cntS s l := by
  unfold cntS one
  rw [List.filter_cons]
  by_cases h : (size16 x == s) = true
  · rw [if_pos h, if_pos h, List.length_cons]; omega
  · rw [if_neg h, if_neg h]; omega
theorem cntS_flat (s : Nat) (L : Nat → List Nat) (n : Nat) : cntS s ((List.range n).flatMap L) = sumN (fun i => cntS s (L i)) n := by
  induction n with
  | zero => rfl
  | succ n ih =>
    rw [List.range_succ, List.flatMap_append, cntS_app, ih]
    simp [sumN]
theorem cnt_set (p : Nat → Bool) (i n : Nat) (h : p i = false) : cnt (fun j => p j || decide (i = j)) n = cnt p n + (if i < n then 1 else 0) := by
  induction n with
  | zero => rfl
  | succ n ih =>
    simp only [cnt, ih]
    by_cases e : i = n
    · subst e
      simp [h]
    · have e2 : (if i < n + 1 then 1 else 0) = (if i < n then 1 else 0) := by
        by_cases h3 : i < n
        · rw [if_pos h3, if_pos (by omega)]
        · rw [if_neg h3, if_neg (by omega)]
      rw [e2]
      by_cases hp : p n = true
      · simp [hp]; omega
      · simp [hp, e]
theorem size_or (g i : Nat) (h : g.testBit i = false) (hi : i < 16) : size16 (g ||| 2 ^ i) = size16 g + 1 := by
  unfold size16
  have e : (fun j => (g ||| 2 ^ i).testBit j) = fun j => g.testBit j || decide (i = j) := funext fun j => by rw [Nat.testBit_or, pow_bit]
  rw [e, cnt_set _ _ _ h, if_pos hi]
/-- how many ways there are to take d more horses -/
def ext (H : Nat → Nat) (n : Nat) : Nat → Nat → Nat
  | 0, _ => 1
  | d + 1, nx => sumN (fun i => if nx.testBit i then ext H n d (aft nx i &&& H i) else 0) n
theorem cliq_size {H : Nat → Nat} {n : Nat} (hn : n ≤ 14) (f : Nat) : ∀ g nx, nx < 65536 → (∀ j, nx.testBit j = true → n ≤ j + f ∧ j < n ∧ g.testBit j = false) →
    (∀ s, s < size16 g → cntS s (cliq H n f g nx) = 0) ∧ ∀ d, cntS (size16 g + d) (cliq H n f g nx) = ext H n d nx := by
  induction f with
  | zero =>
    intro g nx _ hb
    have h0 : ∀ i, i < n → nx.testBit i = false := fun i hi => by
      cases h : nx.testBit i
      · rfl
      · have := hb i h; omega
    have e : cliq H n 0 g nx = [g] := rfl
    rw [e]
    refine ⟨fun s hs => ?_, fun d => ?_⟩
    · rw [cntS_cons, show (size16 g == s) = false by rw [beq_eq_false_iff_ne]; omega]
      rfl
    · rw [cntS_cons]
      cases d with
      | zero => simp [one, cntS, ext]
      | succ d =>
        rw [show (size16 g == size16 g + (d + 1)) = false by rw [beq_eq_false_iff_ne]; omega]
        have : ext H n (d + 1) nx = sumN (fun _ => 0) n := sumN_congr fun i hi => by rw [h0 i hi]; rfl
        rw [this, sumN_zero]
        rfl
  | succ f ih =>
    intro g nx hx hb
    have hnext : ∀ i, nx.testBit i = true → (∀ j, (aft nx i &&& H i).testBit j = (nx.testBit j && decide (i < j) && (H i).testBit j)) := fun i hi j => by
      rw [Nat.testBit_and, aft_bit _ _ _ hx (by have := hb i hi; omega)]
    have hlt : ∀ i, aft nx i &&& H i < 65536 := fun i => Nat.lt_of_le_of_lt Nat.and_le_left (Nat.lt_of_le_of_lt (aft_le _ _) hx)
    have hbn : ∀ i, nx.testBit i = true → ∀ j, (aft nx i &&& H i).testBit j = true → n ≤ j + f ∧ j < n ∧ (g ||| 2 ^ i).testBit j = false := fun i hi j hj => by
      rw [hnext i hi] at hj
      simp only [Bool.and_eq_true, decide_eq_true_eq] at hj
      have h1 := hb i hi
      have h2 := hb j hj.1.1
      refine ⟨by omega, h2.2.1, ?_⟩
      rw [Nat.testBit_or, h2.2.2, pow_bit]
      simp
      omega
    have hsz : ∀ i, nx.testBit i = true → size16 (g ||| 2 ^ i) = size16 g + 1 := fun i hi => size_or g i (hb i hi).2.2 (by have := hb i hi; omega)
    rw [cliq_succ]
    unfold cliqTo
    refine ⟨fun s hs => ?_, fun d => ?_⟩
    · rw [cntS_cons, cntS_flat, show (size16 g == s) = false by rw [beq_eq_false_iff_ne]; omega]
      rw [sumN_congr (g := fun _ => 0) (fun i _ => by
        by_cases h : nx.testBit i = true
        · rw [if_pos h]
          exact (ih _ _ (hlt i) (hbn i h)).1 s (by rw [hsz i h]; omega)
        · rw [if_neg h]; rfl), sumN_zero]
      rfl
    · rw [cntS_cons, cntS_flat]
      cases d with
      | zero =>
        rw [sumN_congr (g := fun _ => 0) (fun i _ => by
          by_cases h : nx.testBit i = true
          · rw [if_pos h]
            exact (ih _ _ (hlt i) (hbn i h)).1 _ (by rw [hsz i h]; omega)
          · rw [if_neg h]; rfl), sumN_zero]
        simp [one, ext]
      | succ d =>
        rw [show (size16 g == size16 g + (d + 1)) = false by rw [beq_eq_false_iff_ne]; omega]
        have e : sumN (fun i => cntS (size16 g + (d + 1)) (if nx.testBit i = true then cliq H n f (g ||| 2 ^ i) (aft nx i &&& H i) else [])) n = ext H n (d + 1) nx := sumN_congr fun i _ => by
          by_cases h : nx.testBit i = true
          · rw [if_pos h, if_pos h]
            have := (ih _ _ (hlt i) (hbn i h)).2 d
            rw [hsz i h] at this
            rw [← this]
            congr 1
            omega
          · rw [if_neg h, if_neg h]; rfl
        rw [e]
        simp [one]
theorem m16_map {l : List Nat} (h : ∀ x, x ∈ l → x < 65536) : triL l = cntS 3 l := by
  unfold triL cntS
  congr 1
  refine List.filter_congr fun x hx => ?_
  unfold m16
  rw [Nat.mod_eq_of_lt (h x hx)]
theorem sumN_if (b : Bool) (f : Nat → Nat) (n : Nat) : (if b then sumN f n else 0) = sumN (fun i => if b then f i else 0) n := by
  cases b with
  | true => rfl
  | false => simp [sumN_zero]
theorem triH_sum (H : Nat → Nat) {n : Nat} (hn : n ≤ 14) : triH H n = S3 (fun i j k => one (risB i j k && ((H i).testBit j && (H i).testBit k && (H j).testBit k))) n := by
  unfold triH
  rw [m16_map (fun x hx => by
    have h1 := ((cliq_all hn).1 hx).1
    have h2 : x < 2 ^ 16 := Nat.lt_pow_two_of_testBit x (fun i hi => by
      cases e : x.testBit i
      · rfl
      · have := h1 i e; omega)
    exact h2)]
  have h := (cliq_size (H := H) hn n 0 (allH n) (allH_lt (by omega)) (fun j hj => by rw [allH_bit] at hj; simp at hj; exact ⟨by omega, hj, by simp⟩)).2 3
  have hs0 : size16 0 = 0 := by decide +kernel
  rw [hs0, Nat.zero_add] at h
  rw [h]
  simp only [ext]
  unfold S3
  refine sumN_congr fun i hi => ?_
  rw [allH_bit, decide_eq_true hi, if_pos rfl]
  refine sumN_congr fun j hj => ?_
  rw [sumN_if]
  refine sumN_congr fun k hk => ?_
  have hx : aft (allH n) i &&& H i < 65536 := Nat.lt_of_le_of_lt Nat.and_le_left (Nat.lt_of_le_of_lt (aft_le _ _) (allH_lt (by omega)))
  rw [Nat.testBit_and, Nat.testBit_and, aft_bit _ _ _ hx (by omega), Nat.testBit_and, aft_bit _ _ _ (allH_lt (by omega)) (by omega), aft_bit _ _ _ (allH_lt (by omega)) (by omega), allH_bit, allH_bit, decide_eq_true hj, decide_eq_true hk]
  show _ = one (risB i j k && ((H i).testBit j && (H i).testBit k && (H j).testBit k))
  unfold one risB
  generalize (H i).testBit j = a
  generalize (H i).testBit k = b
  generalize (H j).testBit k = c
  by_cases h1 : i < j
  · by_cases h2 : j < k
    · have h3 : i < k := by omega
      cases a <;> cases b <;> cases c <;> simp [h1, h2, h3]
    · simp [h2]
  · simp [h1]
/-- who gets along with whom, by bits -/
theorem along_adj {A B : Nat → Int} {n : Int} (m : Nat) (h : allN (pairB n A B) m = true) (i j : Nat) : (alongH A B m i).testBit j = adjP A B m i j := by
  induction m with
  | zero => simp [alongH, adjP]
  | succ m ih =>
    have h1 := ih (allN_prev h)
    obtain ⟨a0, b0, _, _, hab⟩ := pairB_true (allN_at h (Nat.lt_succ_self m))
    simp only [alongH, adjP, joinH, setF]
    rw [← h1]
    have hne : (A m).toNat ≠ (B m).toNat := by omega
    generalize (A m).toNat = a at *
    generalize (B m).toNat = b at *
    by_cases e1 : i = b
    · subst e1
      rw [if_pos rfl, Nat.testBit_or, pow_bit]
      have : ¬ i = a := fun e => hne e.symm
      simp [this]
      congr 1
      simp [eq_comm]
    · rw [if_neg e1]
      by_cases e2 : i = a
      · subst e2
        rw [if_pos rfl, Nat.testBit_or, pow_bit]
        simp [e1]
        congr 1
        simp [eq_comm]
      · rw [if_neg e2]
        simp [e1, e2]
theorem adj_sym {A B : Nat → Int} {n : Int} (m k : Nat) (h : allN (pairB n A B) m = true) : Sym (adjP A B m) k := by
  induction m with
  | zero => exact ⟨fun _ _ _ _ => rfl, fun _ _ => rfl⟩
  | succ m ih =>
    have h1 := ih (allN_prev h)
    obtain ⟨a0, b0, _, _, hab⟩ := pairB_true (allN_at h (Nat.lt_succ_self m))
    have hne : (A m).toNat ≠ (B m).toNat := by omega
    simp only [adjP]
    generalize (A m).toNat = a at *
    generalize (B m).toNat = b at *
    refine ⟨fun i j hi hj => ?_, fun i hi => ?_⟩
    · unfold setF
      rw [h1.sym i j hi hj]
      by_cases e1 : i = a <;> by_cases e2 : j = b <;> by_cases e3 : i = b <;> by_cases e4 : j = a <;> simp [e1, e2, e3, e4]
    · unfold setF
      rw [h1.irr i hi]
      by_cases e1 : i = a <;> by_cases e3 : i = b <;> simp [e1, e3] <;> omega
theorem two_kinds {A B : Nat → Int} {n : Nat} (m : Nat) (hn : n ≤ 9) (h : allN (pairB n A B) m = true) : triH (alongH A B m) n + triH (oppH (alongH A B m) n) n = S3 (tP (adjP A B m)) n := by
  rw [triH_sum _ (by omega), triH_sum _ (by omega), ← S3_add]
  have hlt := alongH_lt (n := n) (by omega) h
  refine S3_congr fun i j k hi hj hk => ?_
  rw [oppH_bit (by omega) hi (hlt i hi), oppH_bit (by omega) hi (hlt i hi), oppH_bit (by omega) hj (hlt j hj), along_adj m h, along_adj m h, along_adj m h]
  unfold tP risB monoB one
  generalize adjP A B m i j = a
  generalize adjP A B m i k = b
  generalize adjP A B m j k = c
  by_cases h1 : i < j
  · by_cases h2 : j < k
    · have h3 : ¬ i = j := by omega
      have h4 : ¬ i = k := by omega
      have h5 : ¬ j = k := by omega
      cases a <;> cases b <;> cases c <;> simp [h1, h2, h3, h4, h5, hj, hk]
    · simp [h2]
  · simp [h1]
end Go.Proofs.YtlnlddnjalfamaaGreatDoor
