/-
  Words in plain lists: sums, letters put in and taken away; no two words of a code share a shorter or a longer one. No program is named here.
-/
import Derived.Lib.SlicesCompact
namespace Go.Proofs.Ytjcgplocifmolaa

/-- the sum of a word whose first letter has the number p + 1 -/
def wsum : Nat → List UInt8 → Nat
  | _, [] => 0
  | p, c :: t => (if c = 49 then p + 1 else 0) + wsum (p + 1) t
/-- how many letters 1 -/
def ones : List UInt8 → Nat
  | [] => 0
  | c :: t => (if c = 49 then 1 else 0) + ones t
def Bin (l : List UInt8) : Prop := ∀ c ∈ l, c = 48 ∨ c = 49
/-- one more letter ahead of place i; the letter at place i taken away -/
def ins (l : List UInt8) (i : Nat) (c : UInt8) : List UInt8 := l.take i ++ c :: l.drop i
def del (l : List UInt8) (i : Nat) : List UInt8 := l.take i ++ l.drop (i + 1)
theorem ins_len {l : List UInt8} {i : Nat} {c : UInt8} : (ins l i c).length = l.length + 1 := by
  unfold ins; simp; omega
theorem del_len {l : List UInt8} {i : Nat} (h : i < l.length) : (del l i).length + 1 = l.length := by
  unfold del; simp; omega
theorem ones_le (l : List UInt8) : ones l ≤ l.length := by
  induction l with
  | nil => simp [ones]
  | cons c t ih => simp only [ones, List.length_cons]; split <;> omega
theorem wsum_succ (l : List UInt8) (p : Nat) : wsum (p + 1) l = wsum p l + ones l := by
  induction l generalizing p with
  | nil => rfl
  | cons c t ih => simp only [wsum, ones]; rw [ih (p + 1)]; split <;> omega
theorem wsum_append (a b : List UInt8) (p : Nat) : wsum p (a ++ b) = wsum p a + wsum (p + a.length) b := by
  induction a generalizing p with
  | nil => simp [wsum]
  | cons c t ih => simp only [List.cons_append, wsum, List.length_cons]; rw [ih, show p + 1 + t.length = p + (t.length + 1) by omega]; omega
theorem wsum_le (l : List UInt8) (p : Nat) : wsum p l ≤ (p + l.length) * l.length := by
  induction l generalizing p with
  | nil => simp [wsum]
  | cons c t ih =>
    have h := ih (p + 1)
    simp only [wsum, List.length_cons]
    rw [show p + 1 + t.length = p + (t.length + 1) by omega] at h
    rw [Nat.mul_succ]
    split <;> omega
theorem ones_zero {l : List UInt8} (hb : Bin l) (h : ones l = 0) : l = List.replicate l.length 48 := by
  induction l with
  | nil => rfl
  | cons c t ih =>
    simp only [ones] at h
    have hc : c ≠ 49 := fun e => by simp [e] at h
    have h1 : c = 48 := (hb c (by simp)).resolve_right hc
    have h2 := ih (fun x hx => hb x (by simp [hx])) (by omega)
    rw [List.length_cons, List.replicate_succ, ← h2, h1]
theorem ones_full {l : List UInt8} (h : ones l = l.length) : l = List.replicate l.length 49 := by
  induction l with
  | nil => rfl
  | cons c t ih =>
    simp only [ones, List.length_cons] at h
    have ht := ones_le t
    have hc : c = 49 := by
      by_cases e : c = 49
      · exact e
      · rw [if_neg e] at h; omega
    rw [if_pos hc] at h
    have h2 := ih (by omega)
    rw [List.length_cons, List.replicate_succ, ← h2, hc]
theorem rot_of {c : UInt8} {B : List UInt8} (h : B = List.replicate B.length c) : c :: B = B ++ [c] := by
  rw [h, ← List.replicate_succ, List.replicate_succ']
theorem mod_close {M X Y : Nat} (h : X % M = Y % M) (h1 : X < Y + M) (h2 : Y < X + M) : X = Y := by
  have key : ∀ {x y : Nat}, x ≤ y → x % M = y % M → y < x + M → x = y := by
    intro x y hxy e hlt
    have h3 := Nat.sub_mod_eq_zero_of_mod_eq e.symm
    rw [Nat.mod_eq_of_lt (by omega)] at h3
    omega
  rcases Nat.le_total X Y with hxy | hxy
  · exact key hxy h h2
  · exact (key hxy h.symm h1).symm
/-- A letter that goes on past B: two words of one code that share what is left are one. -/
theorem vt_swap {A B C : List UInt8} {a b : UInt8} (hB : Bin B) (ha : a = 48 ∨ a = 49) (hb : b = 48 ∨ b = 49)
    (h : wsum 0 (A ++ a :: (B ++ C)) % (A.length + B.length + C.length + 2) = wsum 0 (A ++ (B ++ b :: C)) % (A.length + B.length + C.length + 2)) : a :: B = B ++ [b] := by
  have e1 : wsum 0 (A ++ a :: (B ++ C)) = wsum 0 A + ((if a = 49 then A.length + 1 else 0) + (wsum A.length B + ones B + wsum (A.length + B.length + 1) C)) := by
    rw [wsum_append]
    simp only [wsum, Nat.zero_add]
    rw [wsum_append, wsum_succ B, show A.length + 1 + B.length = A.length + B.length + 1 by omega]
  have e2 : wsum 0 (A ++ (B ++ b :: C)) = wsum 0 A + (wsum A.length B + ((if b = 49 then A.length + B.length + 1 else 0) + wsum (A.length + B.length + 1) C)) := by
    rw [wsum_append, wsum_append]
    simp only [wsum, Nat.zero_add]
  rw [e1, e2] at h
  have ho := ones_le B
  generalize wsum 0 A = K1 at h
  generalize wsum A.length B = K2 at h
  generalize wsum (A.length + B.length + 1) C = K3 at h
  have h2 := mod_close h (by split <;> split <;> omega) (by split <;> split <;> omega)
  rcases ha with rfl | rfl <;> rcases hb with rfl | rfl
  · simp only [show ¬ (48 : UInt8) = 49 by decide, if_false] at h2
    exact rot_of (ones_zero hB (by omega))
  · simp only [show ¬ (48 : UInt8) = 49 by decide, if_false, if_true] at h2
    omega
  · simp only [show ¬ (48 : UInt8) = 49 by decide, if_false, if_true] at h2
    omega
  · simp only [if_true] at h2
    exact rot_of (ones_full (by omega))
theorem parts (z : List UInt8) {i j : Nat} (hij : i ≤ j) : z.drop i = (z.drop i).take (j - i) ++ z.drop j := by
  conv => lhs; rw [← List.take_append_drop (j - i) (z.drop i)]
  rw [List.drop_drop, show i + (j - i) = j by omega]
theorem take_parts (z : List UInt8) {i j : Nat} (hij : i ≤ j) : z.take j = z.take i ++ (z.drop i).take (j - i) := by
  rw [← List.take_add, show i + (j - i) = j by omega]
theorem ins_le {z : List UInt8} {i j : Nat} {a b : UInt8} (hz : Bin z) (ha : a = 48 ∨ a = 49) (hb : b = 48 ∨ b = 49) (hij : i ≤ j) (hj : j ≤ z.length)
    (h : wsum 0 (ins z i a) % (z.length + 2) = wsum 0 (ins z j b) % (z.length + 2)) : ins z i a = ins z j b := by
  have e1 : ins z i a = z.take i ++ a :: ((z.drop i).take (j - i) ++ z.drop j) := by unfold ins; rw [← parts z hij]
  have e2 : ins z j b = z.take i ++ ((z.drop i).take (j - i) ++ b :: z.drop j) := by unfold ins; rw [take_parts z hij, List.append_assoc]
  have hl : (z.take i).length + ((z.drop i).take (j - i)).length + (z.drop j).length + 2 = z.length + 2 := by simp; omega
  rw [← hl, e1, e2] at h
  have h2 := vt_swap (fun c hc => hz c (List.mem_of_mem_drop (List.mem_of_mem_take hc))) ha hb h
  rw [e1, e2, ← List.cons_append, h2]
  simp
/-- Two longer words of one code are one. -/
theorem ins_uniq {z : List UInt8} {i j : Nat} {a b : UInt8} (hz : Bin z) (ha : a = 48 ∨ a = 49) (hb : b = 48 ∨ b = 49) (hi : i ≤ z.length) (hj : j ≤ z.length)
    (h : wsum 0 (ins z i a) % (z.length + 2) = wsum 0 (ins z j b) % (z.length + 2)) : ins z i a = ins z j b := by
  rcases Nat.le_total i j with hij | hij
  · exact ins_le hz ha hb hij hj h
  · exact (ins_le hz hb ha hij hi h.symm).symm
theorem get_bin {t : List UInt8} (ht : Bin t) {i : Nat} (h : i < t.length) : t[i] = 48 ∨ t[i] = 49 := ht _ (List.getElem_mem h)
theorem del_lt {t : List UInt8} {i j : Nat} (ht : Bin t) (hij : i < j) (hj : j < t.length)
    (h : wsum 0 (del t i) % t.length = wsum 0 (del t j) % t.length) : del t i = del t j := by
  have hd : t.drop (i + 1) = (t.drop (i + 1)).take (j - (i + 1)) ++ t[j] :: t.drop (j + 1) := by
    rw [List.getElem_cons_drop]; exact parts t (by omega)
  have ht2 : t.take j = t.take i ++ t[i] :: (t.drop (i + 1)).take (j - (i + 1)) := by
    rw [take_parts t (show i + 1 ≤ j by omega), List.take_succ_eq_append_getElem (by omega), List.append_assoc]; rfl
  have e1 : del t i = t.take i ++ ((t.drop (i + 1)).take (j - (i + 1)) ++ t[j] :: t.drop (j + 1)) := by unfold del; rw [← hd]
  have e2 : del t j = t.take i ++ t[i] :: ((t.drop (i + 1)).take (j - (i + 1)) ++ t.drop (j + 1)) := by unfold del; rw [ht2]; simp
  have hl : (t.take i).length + ((t.drop (i + 1)).take (j - (i + 1))).length + (t.drop (j + 1)).length + 2 = t.length := by simp; omega
  have h3 : wsum 0 (del t j) % ((t.take i).length + ((t.drop (i + 1)).take (j - (i + 1))).length + (t.drop (j + 1)).length + 2) = wsum 0 (del t i) % ((t.take i).length + ((t.drop (i + 1)).take (j - (i + 1))).length + (t.drop (j + 1)).length + 2) := by rw [hl]; exact h.symm
  rw [e1, e2] at h3
  have h2 := vt_swap (fun c hc => ht c (List.mem_of_mem_drop (List.mem_of_mem_take hc))) (get_bin ht (by omega)) (get_bin ht hj) h3
  rw [e1, e2, ← List.cons_append, h2]
  simp
/-- Two shorter words of one code are one. -/
theorem del_uniq {t : List UInt8} {i j : Nat} (ht : Bin t) (hi : i < t.length) (hj : j < t.length)
    (h : wsum 0 (del t i) % t.length = wsum 0 (del t j) % t.length) : del t i = del t j := by
  rcases Nat.lt_trichotomy i j with hij | hij | hij
  · exact del_lt ht hij hj h
  · rw [hij]
  · exact (del_lt ht hij hi h.symm).symm
/-- what is taken away can be put in again, and the other way round -/
theorem ins_del {t : List UInt8} {i : Nat} (h : i < t.length) : ins (del t i) i t[i] = t := by
  unfold ins del
  have e1 : (t.take i ++ t.drop (i + 1)).take i = t.take i := by rw [List.take_append_of_le_length (by rw [List.length_take]; omega), List.take_take, Nat.min_self]
  have e2 : (t.take i ++ t.drop (i + 1)).drop i = t.drop (i + 1) := by rw [List.drop_append_of_le_length (by rw [List.length_take]; omega), List.drop_take, Nat.sub_self]; simp
  rw [e1, e2]
  simp
theorem del_ins {z : List UInt8} {i : Nat} {c : UInt8} (h : i ≤ z.length) : del (ins z i c) i = z := by
  unfold ins del
  have hl : (z.take i).length = i := by simp; omega
  have e1 : (z.take i ++ c :: z.drop i).take i = z.take i := by rw [List.take_append_of_le_length (by omega), List.take_take, Nat.min_self]
  have e2 : (z.take i ++ c :: z.drop i).drop (i + 1) = z.drop i := by
    rw [List.drop_append, hl]; simp [List.drop_eq_nil_of_le, hl]
  rw [e1, e2]
  simp
theorem bin_ins {z : List UInt8} {i : Nat} {c : UInt8} (hz : Bin z) (hc : c = 48 ∨ c = 49) : Bin (ins z i c) := by
  intro x hx
  unfold ins at hx
  rcases List.mem_append.1 hx with h | h
  · exact hz x (List.mem_of_mem_take h)
  · rcases List.mem_cons.1 h with rfl | h
    · exact hc
    · exact hz x (List.mem_of_mem_drop h)
theorem bin_del {t : List UInt8} {i : Nat} (ht : Bin t) : Bin (del t i) := by
  intro x hx
  unfold del at hx
  rcases List.mem_append.1 hx with h | h
  · exact ht x (List.mem_of_mem_take h)
  · exact ht x (List.mem_of_mem_drop h)
end Go.Proofs.Ytjcgplocifmolaa
