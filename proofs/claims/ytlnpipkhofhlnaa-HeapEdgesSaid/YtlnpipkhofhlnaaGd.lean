/-
  Yards that are made of a tree and further edges are valid. No memory here.
-/
import Derived.Test.YtlnpipkhofhlnaaY
namespace Go.Proofs.Ytlnpipkhofhlnaa
open Go.RowKit Go.Deep

/-- how far a made yard has come: a tree over the vertices below t, and further edges of k vertices -/
structure MadeI (k t : Nat) (A B : Nat → Int) (m : Nat) : Prop where
  tree : ∀ v : Nat, 1 ≤ v → v < t → ∃ i : Nat, i < m ∧ B i = (v : Int) ∧ ∃ u : Nat, u < v ∧ A i = (u : Int)
  edge : ∀ i, i < m → edgeB k (A i) (B i) = true
theorem MadeI.congr {k t m : Nat} {A B A' B' : Nat → Int} (h : MadeI k t A B m) (hA : ∀ i, i < m → A' i = A i) (hB : ∀ i, i < m → B' i = B i) : MadeI k t A' B' m :=
  ⟨fun v h1 h2 => by obtain ⟨i, hi, hb, u, hu, ha⟩ := h.tree v h1 h2; exact ⟨i, hi, by rw [hB i hi]; exact hb, u, hu, by rw [hA i hi]; exact ha⟩, fun i hi => by rw [hA i hi, hB i hi]; exact h.edge i hi⟩
theorem edge_mk {k a b : Nat} (ha : a < k) (hb : b < k) (h : a ≠ b) : edgeB k (a : Int) (b : Int) = true := by
  unfold edgeB hasB
  simp
  omega
theorem MadeI.good {k m : Nat} {A B : Nat → Int} (h : MadeI k k A B m) (hk : 2 ≤ k) (hk8 : k ≤ 8) (hm : m ≤ 20) : goodB (k : Int) A B m = true := by
  have hE : allN (fun i => edgeB k (A i) (B i)) m = true := allN_true.2 h.edge
  have hR : ∀ v : Nat, v < k → Reach A B m (v : Int) := by
    intro v
    induction v using Nat.strongRecOn with
    | ind v ih =>
      intro hv
      by_cases e : v = 0
      · subst e; intro C h0 _; exact h0
      · obtain ⟨i, hi, hb, u, hu, ha⟩ := h.tree v (by omega) hv
        rw [← hb]
        exact Reach.ab hi (by rw [ha]; exact ih u hu (by omega))
  unfold goodB
  simp only [Int.toNat_natCast, hE, Bool.and_true, Bool.and_eq_true, decide_eq_true_eq]
  refine ⟨⟨⟨by omega, by omega⟩, hm⟩, ?_⟩
  cases hc : conB k (degN A B m) (btwN A B m) with
  | true => rfl
  | false =>
    obtain ⟨v, hv, hn⟩ := con_false (by omega) hE hc
    exact absurd (hR v hv) hn
/-- one more edge at the end -/
def snoc (A : Nat → Int) (m : Nat) (x : Int) : Nat → Int := fun i => if i = m then x else A i
theorem snoc_at (A : Nat → Int) (m : Nat) (x : Int) : snoc A m x m = x := if_pos rfl
theorem snoc_lt {A : Nat → Int} {m i : Nat} {x : Int} (h : i < m) : snoc A m x i = A i := if_neg (by omega)
theorem MadeI.grow {k t m a : Nat} {A B : Nat → Int} (h : MadeI k t A B m) (ha : a < t) (ht : t < k) (ht1 : 1 ≤ t) : MadeI k (t + 1) (snoc A m a) (snoc B m t) (m + 1) := by
  refine ⟨fun v h1 h2 => ?_, fun i hi => ?_⟩
  · by_cases e : v = t
    · subst e; exact ⟨m, by omega, snoc_at _ _ _, a, ha, snoc_at _ _ _⟩
    · obtain ⟨i, hi, hb, u, hu, hA⟩ := h.tree v h1 (by omega)
      exact ⟨i, by omega, by rw [snoc_lt hi]; exact hb, u, hu, by rw [snoc_lt hi]; exact hA⟩
  · by_cases e : i = m
    · subst e; rw [snoc_at, snoc_at]; exact edge_mk (by omega) ht (by omega)
    · rw [snoc_lt (by omega), snoc_lt (by omega)]; exact h.edge i (by omega)
theorem MadeI.more {k m a b : Nat} {A B : Nat → Int} (h : MadeI k k A B m) (ha : a < k) (hb : b < k) (hab : a ≠ b) : MadeI k k (snoc A m a) (snoc B m b) (m + 1) := by
  refine ⟨fun v h1 h2 => ?_, fun i hi => ?_⟩
  · obtain ⟨i, hi, hbb, u, hu, hA⟩ := h.tree v h1 h2
    exact ⟨i, by omega, by rw [snoc_lt hi]; exact hbb, u, hu, by rw [snoc_lt hi]; exact hA⟩
  · by_cases e : i = m
    · subst e; rw [snoc_at, snoc_at]; exact edge_mk ha hb hab
    · rw [snoc_lt (by omega), snoc_lt (by omega)]; exact h.edge i (by omega)
theorem MadeI.start (k : Nat) (A B : Nat → Int) : MadeI k 1 A B 0 := ⟨fun v h1 h2 => by omega, fun i hi => by omega⟩
/-- the other end of a further edge -/
theorem turn_ne {k a z : Nat} (ha : a < k) (hz : z + 1 < k) : (a + 1 + z) % k < k ∧ a ≠ (a + 1 + z) % k := by
  refine ⟨Nat.mod_lt _ (by omega), ?_⟩
  rcases Nat.lt_or_ge (a + 1 + z) k with h | h
  · rw [Nat.mod_eq_of_lt h]; omega
  · rw [Nat.mod_eq_sub_mod h, Nat.mod_eq_of_lt (by omega)]; omega
end Go.Proofs.Ytlnpipkhofhlnaa
