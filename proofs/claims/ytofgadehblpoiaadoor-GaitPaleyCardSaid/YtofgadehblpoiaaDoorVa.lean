/-
  Bent rows out of inner products, in plain numbers: their transforms, and those of the signs of them, are all of one size.
-/
import Derived.Test.YtofgadehblpoiaaDoorZe
import Derived.Test.YtofgadehblpoiaaDoorYr
namespace Go.Proofs.YtofgadehblpoiaaDoor
open Go.RowKit Go.Deep Go.Shelf

/-- p permutes the first n numbers, and q is its inverse -/
def PermP (n : Nat) (p q : Nat → Nat) : Prop := ∀ j, j < n → p j < n ∧ q j < n ∧ p (q j) = j ∧ q (p j) = j
theorem PermP.one (n : Nat) : PermP n (fun j => j) (fun j => j) := fun _ hj => ⟨hj, hj, rfl, rfl⟩
def swp (a c x : Nat) : Nat := if x = c then a else if x = a then c else x
theorem swp_lt {n a c x : Nat} (ha : a < n) (hc : c < n) (hx : x < n) : swp a c x < n := by
  unfold swp
  by_cases h1 : x = c
  · rw [if_pos h1]; exact ha
  · rw [if_neg h1]
    by_cases h2 : x = a
    · rw [if_pos h2]; exact hc
    · rw [if_neg h2]; exact hx
theorem swp_swp (a c x : Nat) : swp a c (swp a c x) = x := by
  unfold swp
  by_cases h1 : x = c
  · rw [if_pos h1]
    by_cases h3 : a = c
    · rw [if_pos h3]; omega
    · rw [if_neg h3, if_pos rfl]; omega
  · rw [if_neg h1]
    by_cases h2 : x = a
    · rw [if_pos h2, if_pos rfl]; omega
    · rw [if_neg h2, if_neg h1, if_neg h2]
theorem PermP.swap {n : Nat} {p q : Nat → Nat} (h : PermP n p q) {a c : Nat} (ha : a < n) (hc : c < n) : PermP n (fun x => p (swp a c x)) (fun x => swp a c (q x)) := fun j hj => by
  obtain ⟨h1, h2, h3, h4⟩ := h j hj
  have hs := swp_lt ha hc hj
  obtain ⟨g1, _, _, g4⟩ := h _ hs
  refine ⟨g1, swp_lt ha hc h2, ?_, ?_⟩
  · show p (swp a c (swp a c (q j))) = j
    rw [swp_swp, h3]
  · show swp a c (q (p (swp a c j))) = j
    rw [g4, swp_swp]
theorem sumZ_grid (f : Nat → Int) (a b : Nat) : sumZ f (a * b) = sumZ (fun j => sumZ (fun i => f (j * b + i)) b) a := by
  induction a with
  | zero => simp [sumZ]
  | succ a ih => rw [Nat.succ_mul, sumZ_split, ih]; rfl
theorem par_split : ∀ n : Fin 4, ∀ a b c d : Fin 8, a.val < 2 ^ n.val → b.val < 2 ^ n.val → c.val < 2 ^ n.val → d.val < 2 ^ n.val → par (a.val * 2 ^ n.val + b.val) (c.val * 2 ^ n.val + d.val) = (par a.val c.val ^^ par b.val d.val) := by decide +kernel
/-- the signs of the row -/
def mmP (Z : Nat) (p : Nat → Nat) (xb : Nat → Bool) (t : Nat) : Bool := par (t % Z) (p (t / Z)) ^^ xb (t / Z)
theorem mmP_at {Z : Nat} {p : Nat → Nat} {xb : Nat → Bool} {j i : Nat} (hi : i < Z) : mmP Z p xb (j * Z + i) = (par i (p j) ^^ xb j) := by
  unfold mmP
  have h1 : (j * Z + i) % Z = i := by rw [Nat.mul_comm, Nat.mul_add_mod]; exact Nat.mod_eq_of_lt hi
  have h2 : (j * Z + i) / Z = j := by rw [Nat.mul_comm, Nat.mul_add_div (by omega), Nat.div_eq_of_lt hi, Nat.add_zero]
  rw [h1, h2]
theorem sg_xor (a b : Bool) : sg (a ^^ b) = sg a * sg b := (sg_mul a b).symm
/-- the transform of the row -/
theorem mm_tr {n : Nat} (hn : n ≤ 3) {p q : Nat → Nat} (h : PermP (2 ^ n) p q) (xb : Nat → Bool) {jj ii : Nat} (hj : jj < 2 ^ n) (hi : ii < 2 ^ n) :
    trN (2 ^ n * 2 ^ n) (fun t => sg (mmP (2 ^ n) p xb t)) (jj * 2 ^ n + ii) = sg (xb (q ii) ^^ par jj (q ii)) * ((2 ^ n : Nat) : Int) := by
  have hZ : 2 ^ n ≤ 8 := by have := Nat.pow_le_pow_right (n := 2) (by omega) hn; omega
  have hq := h ii hi
  unfold trN trP
  rw [sumZ_grid]
  rw [sumZ_congr (g := fun j => if j = q ii then sg (xb j ^^ par jj j) * ((2 ^ n : Nat) : Int) else 0) (fun j hjl => by
    (try dsimp only)
    have hpj := h j hjl
    rw [sumZ_congr (g := fun i => sg (xb j ^^ par jj j) * (sg (par (p j) i) * sg (par ii i))) (fun i hil => by
      (try dsimp only)
      rw [mmP_at hil]
      have hs := par_split ⟨n, by omega⟩ ⟨jj, by omega⟩ ⟨ii, by omega⟩ ⟨j, by omega⟩ ⟨i, by omega⟩ hj hi hjl hil
      simp only at hs
      rw [hs, sg_xor, sg_xor, sg_xor, par_comm i (p j)]
      generalize sg (par (p j) i) = a
      generalize sg (xb j) = b
      generalize sg (par jj j) = c
      generalize sg (par ii i) = d
      rw [Int.mul_comm a b]
      exact four), sumZ_mul, orth (by omega) hi hpj.1]
    by_cases e : j = q ii
    · subst e; rw [if_pos hq.2.2.1, if_pos rfl]
    · rw [if_neg (fun e2 => e (by rw [← e2, hpj.2.2.2])), if_neg e, Int.mul_zero])]
  exact sumZ_pick (fun j => sg (xb j ^^ par jj j) * ((2 ^ n : Nat) : Int)) _ _ hq.2.1
/-- each value of the transform is the size, or the opposite -/
theorem mm_each {n : Nat} (hn : n ≤ 3) {p q : Nat → Nat} (h : PermP (2 ^ n) p q) (xb : Nat → Bool) {i : Nat} (hi : i < 2 ^ n * 2 ^ n) :
    ∃ b : Bool, trN (2 ^ n * 2 ^ n) (fun t => sg (mmP (2 ^ n) p xb t)) i = sg b * ((2 ^ n : Nat) : Int) := by
  have hZ : 0 < 2 ^ n := Nat.two_pow_pos n
  have h1 : i / 2 ^ n < 2 ^ n := Nat.div_lt_of_lt_mul hi
  have h2 : i % 2 ^ n < 2 ^ n := Nat.mod_lt _ hZ
  have h3 := mm_tr hn h xb h1 h2
  rw [show i / 2 ^ n * 2 ^ n + i % 2 ^ n = i by rw [Nat.mul_comm]; exact Nat.div_add_mod i (2 ^ n)] at h3
  exact ⟨_, h3⟩
theorem sq_sg (b : Bool) (z : Int) : (sg b * z) * (sg b * z) = z * z := by rw [four, sg_sq, Int.one_mul]
theorem mm_bent {n : Nat} (hn : n ≤ 3) {p q : Nat → Nat} (h : PermP (2 ^ n) p q) (xb : Nat → Bool) : bentB (2 ^ n * 2 ^ n) (trN (2 ^ n * 2 ^ n) (fun t => sg (mmP (2 ^ n) p xb t))) = true := by
  unfold bentB
  rw [allN_true]
  intro i hi
  obtain ⟨b, hb⟩ := mm_each hn h xb hi
  rw [hb, sq_sg]
  exact decide_eq_true (by simp)
/-- the signs of the transform -/
def dualP (W : Nat → Int) (i : Nat) : Bool := !decide (0 < W i)
theorem dual_sg {b : Bool} {z : Int} (hz : 0 < z) (W : Nat → Int) {i : Nat} (h : W i = sg b * z) : sg (dualP W i) * z = W i := by
  unfold dualP
  rw [h]
  cases b
  · rw [decide_eq_true (by simp [sg]; exact hz)]; rfl
  · rw [decide_eq_false (by simp [sg]; omega)]; rfl
theorem mm_dual {n : Nat} (hn : n ≤ 3) {p q : Nat → Nat} (h : PermP (2 ^ n) p q) (xb : Nat → Bool) :
    bentB (2 ^ n * 2 ^ n) (trN (2 ^ n * 2 ^ n) (fun i => sg (dualP (trN (2 ^ n * 2 ^ n) (fun t => sg (mmP (2 ^ n) p xb t))) i))) = true := by
  have hZ : 0 < 2 ^ n := Nat.two_pow_pos n
  have hz : (0 : Int) < ((2 ^ n : Nat) : Int) := by omega
  have hpw : 2 ^ n * 2 ^ n = 2 ^ (n + n) := (Nat.pow_add 2 n n).symm
  unfold bentB
  rw [allN_true]
  intro i hi
  have e1 : trN (2 ^ n * 2 ^ n) (fun i => sg (dualP (trN (2 ^ n * 2 ^ n) (fun t => sg (mmP (2 ^ n) p xb t))) i)) i * ((2 ^ n : Nat) : Int) = (sg (mmP (2 ^ n) p xb i) * ((2 ^ n : Nat) : Int)) * ((2 ^ n : Nat) : Int) := by
    have h1 : trN (2 ^ n * 2 ^ n) (fun i => sg (dualP (trN (2 ^ n * 2 ^ n) (fun t => sg (mmP (2 ^ n) p xb t))) i)) i * ((2 ^ n : Nat) : Int) = trN (2 ^ n * 2 ^ n) (trN (2 ^ n * 2 ^ n) (fun t => sg (mmP (2 ^ n) p xb t))) i := by
      show sumZ _ _ * _ = sumZ _ _
      rw [← sumZ_mulr]
      refine sumZ_congr fun j hj => ?_
      (try dsimp only)
      obtain ⟨b, hb⟩ := mm_each hn h xb hj
      rw [← dual_sg hz _ hb]
      rw [Int.mul_assoc, Int.mul_assoc, Int.mul_comm (sg (par i j))]
    rw [h1]
    have h2 := tr_tr (k := n + n) (i := i) (fun t => sg (mmP (2 ^ n) p xb t)) (by omega) (by rw [← hpw]; exact hi)
    rw [← hpw] at h2
    rw [h2, Int.mul_assoc]
    congr 1
  have e2 := Int.eq_of_mul_eq_mul_right (by omega : ((2 ^ n : Nat) : Int) ≠ 0) e1
  rw [e2, sq_sg]
  exact decide_eq_true (by simp)
/-- what gait.Bent says of a row of 4^n signs -/
theorem is4_sq : ∀ n : Fin 4, is4 (2 ^ n.val * 2 ^ n.val) = true := by decide +kernel
theorem Bent_row (w : World) (N : Nat) (P : Nat → Bool) (hT : TzAt w) (h1 : 1 ≤ N) (h2 : N ≤ 64) (h4 : is4 N = true) (hb : bentB N (trN N (fun t => sg (P t))) = true) :
    Calls Tryd.prog 39 #[.string (rowS N P)] w fun e w' => Kept w w' ∧ e = .returned (.tuple #[.bool true, .int .i64 0]) := by
  have h := Bent_any w (rowS N P) (by rw [rowS_size]; omega) hT
  unfold BentAns at h
  have hc : bentC (rowS N P) = 0 := by unfold bentC; rw [rowC_rowS h1 h2, rowS_size, if_pos rfl, h4]; rfl
  have hbb : bentB N (trN N (sgnS (rowS N P))) = true := by
    rw [← hb]
    exact bentB_congr fun i _ => trN_congr (fun j hj => sgnS_row hj) i
  rw [hc, rowS_size, hbb] at h
  exact h
end Go.Proofs.YtofgadehblpoiaaDoor
