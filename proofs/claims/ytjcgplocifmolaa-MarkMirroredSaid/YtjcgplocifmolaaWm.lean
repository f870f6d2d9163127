/-
  Words turned about, and words with all letters changed: their sums. No program is named here.
-/
import Derived.Test.YtjcgplocifmolaaYf
namespace Go.Proofs.Ytjcgplocifmolaa
open Go.RowKit Go.Deep Go.Sort

theorem ones_append (a b : Wd) : ones (a ++ b) = ones a + ones b := by
  induction a with
  | nil => simp [ones]
  | cons c t ih => simp only [List.cons_append, ones]; rw [ih]; omega
theorem wsum_rev (l : Wd) : wsum 0 l.reverse + wsum 0 l = ones l * (l.length + 1) := by
  induction l with
  | nil => rfl
  | cons c t ih =>
    rw [List.reverse_cons, wsum_append]
    simp only [wsum, ones, List.length_cons, List.length_reverse, Nat.zero_add, Nat.add_zero]
    rw [wsum_succ t 0, Nat.add_mul, show ones t * (t.length + 1 + 1) = ones t * (t.length + 1) + ones t from Nat.mul_succ _ _, ← ih]
    by_cases h : c = 49
    · simp only [if_pos h]; omega
    · simp only [if_neg h]; omega
theorem rev_bin {l : Wd} (h : Bin l) : Bin l.reverse := fun c hc => h c (List.mem_reverse.1 hc)
/-- the code of the words of a code, turned about -/
def mirA (k c : Nat) : Nat := (k + 1 - c) % (k + 1)
theorem mirA_le (k c : Nat) : mirA k c ≤ k := by
  have := Nat.mod_lt (k + 1 - c) (show 0 < k + 1 by omega)
  unfold mirA; omega
theorem mirA_mirA {k c : Nat} (hc : c ≤ k) : mirA k (mirA k c) = c := by
  unfold mirA
  by_cases h : c = 0
  · subst h; simp
  · rw [Nat.mod_eq_of_lt (show k + 1 - c < k + 1 by omega), show k + 1 - (k + 1 - c) = c by omega, Nat.mod_eq_of_lt (by omega)]
theorem rev_code {k c : Nat} (hc : c ≤ k) {x : Wd} (h : x ∈ codeL k c) : x.reverse ∈ codeL k (mirA k c) := by
  obtain ⟨h1, h2, h3⟩ := mem_codeL.1 h
  refine mem_codeL.2 ⟨rev_bin h1, by rw [List.length_reverse]; exact h2, ?_⟩
  have hs := wsum_rev x
  rw [h2] at hs
  unfold mirA
  generalize wsum 0 x.reverse = a at *
  generalize wsum 0 x = b at *
  have e1 : (a + b) % (k + 1) = 0 := by rw [hs]; exact Nat.mul_mod_left _ _
  have e2 : (a % (k + 1) + c) % (k + 1) = 0 := by rw [← h3, ← Nat.add_mod]; exact e1
  have hlt := Nat.mod_lt a (show 0 < k + 1 by omega)
  generalize a % (k + 1) = r at *
  by_cases h0 : c = 0
  · subst h0; rw [Nat.add_zero, Nat.mod_eq_of_lt hlt] at e2; simp [e2]
  · rw [Nat.mod_eq_of_lt (show k + 1 - c < k + 1 by omega)]
    have h4 : r + c = k + 1 := by
      rcases Nat.lt_or_ge (r + c) (k + 1) with h5 | h5
      · rw [Nat.mod_eq_of_lt h5] at e2; omega
      · rw [Nat.mod_eq_sub_mod h5, Nat.mod_eq_of_lt (by omega)] at e2; omega
    omega
theorem allW_nodup (n : Nat) : (allW 2 n).Nodup := by
  induction n with
  | zero => simp [allW]
  | succ n ih =>
    unfold allW
    unfold List.Nodup at *
    rw [List.pairwise_flatMap]
    refine ⟨fun x _ => ?_, ih.imp ?_⟩
    · show List.Pairwise _ [x ++ [48], x ++ [49]]
      simp
    · intro a b hab x hx y hy e
      unfold ext at hx hy
      obtain ⟨c, _, rfl⟩ := List.mem_map.1 hx
      obtain ⟨d, _, rfl⟩ := List.mem_map.1 hy
      exact hab (List.append_inj_left' e rfl)
theorem codeL_nodup (n a : Nat) : (codeL n a).Nodup := by
  unfold codeL wordsF
  exact (allW_nodup n).filter _
theorem map_rev_nodup {L : List Wd} (h : L.Nodup) : (L.map List.reverse).Nodup := by
  unfold List.Nodup at *
  rw [List.pairwise_map]
  exact h.imp fun hab e => hab (by have := congrArg List.reverse e; simpa using this)
theorem mir_le {k c : Nat} (hc : c ≤ k) : (codeL k c).length ≤ (codeL k (mirA k c)).length := by
  have h := nodup_le (map_rev_nodup (codeL_nodup k c)) (m := codeL k (mirA k c)) (fun x hx => by
    obtain ⟨y, hy, rfl⟩ := List.mem_map.1 hx
    exact rev_code hc hy)
  rwa [List.length_map] at h
theorem mir_len {k c : Nat} (hc : c ≤ k) : (codeL k c).length = (codeL k (mirA k c)).length := by
  have h := mir_le (mirA_le k c)
  rw [mirA_mirA hc] at h
  exact Nat.le_antisymm (mir_le hc) h
/-- all letters changed -/
def flp (l : Wd) : Wd := l.map fun c => if c = 48 then 49 else 48
theorem flp_len (l : Wd) : (flp l).length = l.length := by simp [flp]
theorem flp_bin (l : Wd) : Bin (flp l) := by
  intro c hc
  unfold flp at hc
  obtain ⟨d, _, rfl⟩ := List.mem_map.1 hc
  split
  · exact .inr rfl
  · exact .inl rfl
theorem flp_take {l : Wd} {i : Nat} (h : i < l.length) : flp (l.take (i + 1)) = flp (l.take i) ++ [if l[i] = 48 then 49 else 48] := by
  unfold flp
  rw [List.take_succ_eq_append_getElem h, List.map_append]; rfl
theorem wsum_flp {l : Wd} (hb : Bin l) (p : Nat) : 2 * (wsum p l + wsum p (flp l)) = 2 * p * l.length + l.length * (l.length + 1) := by
  induction l generalizing p with
  | nil => simp [wsum, flp]
  | cons c t ih =>
    have h := ih (fun x hx => hb x (by simp [hx])) (p + 1)
    have e : flp (c :: t) = (if c = 48 then 49 else 48) :: flp t := rfl
    rw [e]
    simp only [wsum, List.length_cons]
    have h2 : (if c = 49 then p + 1 else 0) + (if (if c = 48 then (49 : UInt8) else 48) = 49 then p + 1 else 0) = p + 1 := by
      rcases hb c (by simp) with rfl | rfl <;> simp
    have h3 : 2 * (p + 1) * t.length = 2 * p * t.length + 2 * t.length := by rw [Nat.mul_add, Nat.add_mul]
    have h4 : (t.length + 1) * (t.length + 1 + 1) = t.length * (t.length + 1) + 2 * t.length + 2 := by
      rw [Nat.add_mul, Nat.mul_add]; omega
    rw [h4, Nat.mul_add (2 * p)]
    omega
theorem flp_sum {l : Wd} (hb : Bin l) : wsum 0 l + wsum 0 (flp l) = l.length * (l.length + 1) / 2 := by
  have h := wsum_flp hb 0
  simp only [Nat.mul_zero, Nat.zero_mul, Nat.zero_add] at h
  omega
end Go.Proofs.Ytjcgplocifmolaa
