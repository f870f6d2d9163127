/-
  Rows of two signs, in plain numbers: letters, sums, strings made of signs. No program is named here.
-/
import Derived.Test.YthigeafojekclaaDoorRep
import Derived.Lib.Strings
namespace Go.Proofs.YthigeafojekclaaDoor
open Go.RowKit Go.Deep

/-- the letter i of a string -/
def chr (s : ByteArray) (i : Nat) : Int := if h : i < s.size then ((s[i]'h).toNat : Int) else 0
theorem chr_at {s : ByteArray} {i : Nat} (h : i < s.size) : ((s[i]'h).toNat : Int) = chr s i := by unfold chr; rw [dif_pos h]
theorem chr_list (s : ByteArray) (i : Nat) (h : i < s.size) : chr s i = ((s.data.toList.getD i 0).toNat : Int) := by
  have h2 : i < s.data.toList.length := by simpa using h
  unfold chr
  rw [dif_pos h, List.getD_eq_getElem?_getD, List.getElem?_eq_getElem h2]
  rfl
theorem chr_ext {s t : ByteArray} (h : s.size = t.size) (hc : ∀ i, i < s.size → chr s i = chr t i) : s = t := by
  obtain ⟨⟨a⟩⟩ := s
  obtain ⟨⟨b⟩⟩ := t
  have hl : a.length = b.length := h
  have : a = b := by
    apply List.ext_getElem hl
    intro i h1 h2
    have h3 := hc i h1
    rw [chr_list _ _ h1, chr_list _ _ (show i < b.length from h2)] at h3
    simp only [List.getD_eq_getElem?_getD, List.getElem?_eq_getElem h1, List.getElem?_eq_getElem h2, Option.getD_some] at h3
    exact UInt8.toNat_inj.1 (by omega)
  rw [this]
theorem chr_append (s t : ByteArray) (i : Nat) (h : i < s.size + t.size) : chr (s ++ t) i = if i < s.size then chr s i else chr t (i - s.size) := by
  have hs : (s ++ t).size = s.size + t.size := by simp
  rw [chr_list _ _ (by omega)]
  have e : (s ++ t).data.toList = s.data.toList ++ t.data.toList := by simp
  rw [e, List.getD_eq_getElem?_getD]
  by_cases h1 : i < s.size
  · rw [if_pos h1, chr_list _ _ h1, List.getElem?_append_left (by simpa using h1), List.getD_eq_getElem?_getD]
  · rw [if_neg h1, chr_list _ _ (by omega), List.getElem?_append_right (by simp; omega), List.getD_eq_getElem?_getD]
    simp
theorem size_extract (s : ByteArray) (a b : Nat) (h : b ≤ s.size) : (s.extract a b).size = b - a := by
  rw [ByteArray.size_extract]
  try omega
theorem chr_extract (s : ByteArray) (a b i : Nat) (hb : b ≤ s.size) (h : i < b - a) : chr (s.extract a b) i = chr s (a + i) := by
  rw [chr_list _ _ (by rw [size_extract _ _ _ hb]; exact h), chr_list _ _ (by omega)]
  rw [List.getD_eq_getElem?_getD, List.getD_eq_getElem?_getD]
  have e : (s.extract a b).data.toList = (s.data.toList.drop a).take (b - a) := by
    rw [ByteArray.data_extract, Array.toList_extract]
  rw [e, List.getElem?_take_of_lt h, List.getElem?_drop]
/-- a sum -/
def sumZ (f : Nat → Int) : Nat → Int
  | 0 => 0
  | k + 1 => sumZ f k + f k
theorem sumZ_congr {f g : Nat → Int} {n : Nat} (h : ∀ i, i < n → f i = g i) : sumZ f n = sumZ g n := by
  induction n with
  | zero => rfl
  | succ n ih => simp only [sumZ]; rw [ih (fun i hi => h i (by omega)), h n (by omega)]
theorem sumZ_le {f : Nat → Int} {c : Int} {n : Nat} (h : ∀ i, i < n → -c ≤ f i ∧ f i ≤ c) : -(c * n) ≤ sumZ f n ∧ sumZ f n ≤ c * n := by
  induction n with
  | zero => simp [sumZ]
  | succ n ih =>
    have h1 := ih (fun i hi => h i (by omega))
    have h2 := h n (by omega)
    simp only [sumZ]
    rw [show ((n + 1 : Nat) : Int) = (n : Int) + 1 by omega, Int.mul_add]
    omega
theorem sumZ_add (f g : Nat → Int) (n : Nat) : sumZ (fun i => f i + g i) n = sumZ f n + sumZ g n := by
  induction n with
  | zero => rfl
  | succ n ih => simp only [sumZ]; rw [ih]; omega
theorem sumZ_mul (c : Int) (f : Nat → Int) (n : Nat) : sumZ (fun i => c * f i) n = c * sumZ f n := by
  induction n with
  | zero => simp [sumZ]
  | succ n ih => simp only [sumZ]; rw [ih, Int.mul_add]
theorem sumZ_neg (f : Nat → Int) (n : Nat) : sumZ (fun i => - f i) n = - sumZ f n := by
  induction n with
  | zero => rfl
  | succ n ih => simp only [sumZ]; rw [ih]; omega
theorem sumZ_const (c : Int) (n : Nat) : sumZ (fun _ => c) n = c * n := by
  induction n with
  | zero => simp [sumZ]
  | succ n ih => simp only [sumZ]; rw [ih, show ((n + 1 : Nat) : Int) = (n : Int) + 1 by omega, Int.mul_add]; omega
theorem sumZ_split (f : Nat → Int) (a b : Nat) : sumZ f (a + b) = sumZ f a + sumZ (fun i => f (a + i)) b := by
  induction b with
  | zero => simp [sumZ]
  | succ b ih => rw [show a + (b + 1) = a + b + 1 by omega]; simp only [sumZ]; rw [ih]; omega
theorem sumZ_swap (f : Nat → Nat → Int) (n m : Nat) : sumZ (fun i => sumZ (fun j => f i j) m) n = sumZ (fun j => sumZ (fun i => f i j) n) m := by
  induction n with
  | zero =>
    simp only [sumZ]
    rw [sumZ_const]; simp
  | succ n ih =>
    simp only [sumZ]
    rw [ih, sumZ_add]
theorem sumZ_rev (f : Nat → Int) (n : Nat) : sumZ (fun i => f (n - 1 - i)) n = sumZ f n := by
  induction n generalizing f with
  | zero => rfl
  | succ n ih =>
    have h1 := ih (fun i => f (i + 1))
    have h2 : sumZ f (n + 1) = f 0 + sumZ (fun i => f (i + 1)) n := by
      have := sumZ_split f 1 n
      rw [show 1 + n = n + 1 by omega] at this
      rw [this]
      simp only [sumZ]
      rw [Int.zero_add]
      congr 1
      exact sumZ_congr fun i _ => by rw [show 1 + i = i + 1 by omega]
    rw [h2, ← h1]
    simp only [sumZ]
    rw [show n + 1 - 1 - n = 0 by omega, Int.add_comm]
    congr 1
    exact sumZ_congr fun i hi => by rw [show n + 1 - 1 - i = n - 1 - i + 1 by omega]
/-- what a sign means: '-' is 45 -/
def sg (b : Bool) : Int := if b then -1 else 1
theorem sg_mul (a b : Bool) : sg a * sg b = sg (a ^^ b) := by cases a <;> cases b <;> rfl
theorem sg_sq (a : Bool) : sg a * sg a = 1 := by cases a <;> rfl
theorem sg_not (a : Bool) : sg (!a) = - sg a := by cases a <;> rfl
theorem sg_cases (a : Bool) : sg a = 1 ∨ sg a = -1 := by cases a <;> simp [sg]
/-- the row of n signs, '-' where p says so -/
def rowL (n : Nat) (p : Nat → Bool) : List UInt8 := (List.range n).map fun i => if p i then 45 else 43
def rowS (n : Nat) (p : Nat → Bool) : ByteArray := ⟨(rowL n p).toArray⟩
theorem rowL_len (n : Nat) (p : Nat → Bool) : (rowL n p).length = n := by simp [rowL]
theorem rowS_size (n : Nat) (p : Nat → Bool) : (rowS n p).size = n := by
  show (rowL n p).toArray.size = n
  simp [rowL]
theorem chr_rowS {n : Nat} {p : Nat → Bool} {i : Nat} (h : i < n) : chr (rowS n p) i = if p i then 45 else 43 := by
  rw [chr_list _ _ (by rw [rowS_size]; exact h)]
  show (((rowL n p).getD i 0).toNat : Int) = _
  unfold rowL
  rw [List.getD_eq_getElem?_getD, List.getElem?_map, List.getElem?_range h]
  show (((if p i = true then 45 else 43 : UInt8).toNat : Nat) : Int) = _
  cases p i <;> rfl
theorem rowS_congr {n : Nat} {p q : Nat → Bool} (h : ∀ i, i < n → p i = q i) : rowS n p = rowS n q := by
  unfold rowS rowL
  congr 2
  apply List.map_congr_left
  intro i hi
  rw [h i (by simpa using hi)]
theorem rowS_inj {n : Nat} {p q : Nat → Bool} (h : rowS n p = rowS n q) : ∀ i, i < n → p i = q i := fun i hi => by
  have h1 := chr_rowS (p := p) hi
  rw [h, chr_rowS hi] at h1
  cases hp : p i <;> cases hq : q i <;> simp [hp, hq] at h1 <;> rfl
theorem rowS_append (a b : Nat) (p q : Nat → Bool) : rowS a p ++ rowS b q = rowS (a + b) (fun i => if i < a then p i else q (i - a)) := by
  apply chr_ext
  · simp [rowS_size]
  · intro i hi
    have hi2 : i < a + b := by simpa [rowS_size] using hi
    rw [chr_append _ _ _ (by simpa using hi), chr_rowS hi2, rowS_size]
    by_cases h : i < a
    · rw [if_pos h, chr_rowS h]; simp [h]
    · rw [if_neg h, chr_rowS (by omega)]; simp [h]
theorem rowS_extract (n a b : Nat) (p : Nat → Bool) (hb : b ≤ n) : (rowS n p).extract a b = rowS (b - a) (fun i => p (a + i)) := by
  apply chr_ext
  · rw [size_extract _ _ _ (by rw [rowS_size]; exact hb), rowS_size]
  · intro i hi
    rw [size_extract _ _ _ (by rw [rowS_size]; exact hb)] at hi
    rw [chr_extract _ _ _ _ (by rw [rowS_size]; exact hb) hi, chr_rowS (by omega), chr_rowS hi]
/-- a letter is a sign -/
def isSg (x : Int) : Bool := x == 43 || x == 45
def mn (s : ByteArray) (i : Nat) : Bool := chr s i == 45
def allSg (s : ByteArray) : Bool := allN (fun i => isSg (chr s i)) s.size
/-- a string of signs alone is the row of its signs -/
theorem row_of {s : ByteArray} (h : allSg s = true) : s = rowS s.size (mn s) := by
  apply chr_ext
  · rw [rowS_size]
  · intro i hi
    rw [chr_rowS hi]
    have h1 := allN_true.1 h i hi
    unfold mn
    unfold isSg at h1
    rcases Bool.or_eq_true _ _ ▸ h1 with e | e
    · rw [eq_of_beq e]; rfl
    · rw [eq_of_beq e]; rfl
theorem allSg_rowS (n : Nat) (p : Nat → Bool) : allSg (rowS n p) = true := by
  unfold allSg
  rw [rowS_size, allN_true]
  intro i hi
  rw [chr_rowS hi]
  cases p i <;> rfl
theorem mn_rowS {n : Nat} {p : Nat → Bool} {i : Nat} (h : i < n) : mn (rowS n p) i = p i := by
  unfold mn
  rw [chr_rowS h]
  cases p i <;> rfl
/-- what is wrong with one row -/
def rowC (s : ByteArray) : Int := if 64 < s.size then 3 else if s.size = 0 then 2 else if allSg s then 0 else 2
theorem rowC_rowS {n : Nat} {p : Nat → Bool} (h1 : 1 ≤ n) (h2 : n ≤ 64) : rowC (rowS n p) = 0 := by
  unfold rowC
  rw [rowS_size, if_neg (by omega), if_neg (by omega), if_pos (allSg_rowS n p)]
theorem rowC_good {s : ByteArray} (h : rowC s = 0) : 1 ≤ s.size ∧ s.size ≤ 64 ∧ allSg s = true := by
  unfold rowC at h
  split at h
  · cases h
  · split at h
    · cases h
    · split at h
      · rename_i h1 h2 h3; exact ⟨by omega, by omega, h3⟩
      · cases h
/-- the sum of the products of the first n signs -/
def lkS (s t : ByteArray) (n : Nat) : Int := sumZ (fun i => if chr s i = chr t i then 1 else -1) n
def lkN (p q : Nat → Bool) (n : Nat) : Int := sumZ (fun i => sg (p i) * sg (q i)) n
theorem lkS_rows {n m k : Nat} {p q : Nat → Bool} (h1 : k ≤ n) (h2 : k ≤ m) : lkS (rowS n p) (rowS m q) k = lkN p q k := by
  unfold lkS lkN
  refine sumZ_congr fun i hi => ?_
  rw [chr_rowS (by omega), chr_rowS (by omega)]
  cases p i <;> cases q i <;> rfl
theorem lkS_bound (s t : ByteArray) (n : Nat) : -(n : Int) ≤ lkS s t n ∧ lkS s t n ≤ n := by
  have := sumZ_le (f := fun i => if chr s i = chr t i then 1 else -1) (c := 1) (n := n) (fun i _ => by split <;> omega)
  unfold lkS
  omega
theorem lkN_bound (p q : Nat → Bool) (n : Nat) : -(n : Int) ≤ lkN p q n ∧ lkN p q n ≤ n := by
  have := sumZ_le (f := fun i => sg (p i) * sg (q i)) (c := 1) (n := n) (fun i _ => by rw [sg_mul]; rcases sg_cases (p i ^^ q i) with h | h <;> rw [h] <;> omega)
  unfold lkN
  omega
/-- the likeness k, and that around -/
def likeN (n : Nat) (p : Nat → Bool) (k : Nat) : Int := lkN p (fun i => p (k + i)) (n - k)
def arouN (n : Nat) (p : Nat → Bool) (k : Nat) : Int := lkN p (fun i => p ((k + i) % n)) n
end Go.Proofs.YthigeafojekclaaDoor
