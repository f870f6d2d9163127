/-
  Walks along two outlines: what the tables say of every walk. No memory here.
-/
import Derived.Test.YtfmcjbddbomohaaZi
import Derived.Test.YtfmcjbddbomohaaRo
namespace Go.Proofs.Ytfmcjbddbomohaa

structure IsWalk (m n T : Nat) (a b : Nat → Nat) : Prop where
  a0 : a 0 = 0
  b0 : b 0 = 0
  aT : a T + 1 = m
  bT : b T + 1 = n
  am : ∀ t, t ≤ T → a t < m
  bn : ∀ t, t ≤ T → b t < n
  st : ∀ t, t < T → a t ≤ a (t + 1) ∧ a (t + 1) ≤ a t + 1 ∧ b t ≤ b (t + 1) ∧ b (t + 1) ≤ b t + 1 ∧ a t + b t < a (t + 1) + b (t + 1)
theorem best3_le {m n i j p q : Nat} {L : Nat → Nat → Int} (hp : p < m) (hq : q < n) (h1 : i ≤ p) (h2 : p ≤ i + 1) (h3 : j ≤ q) (h4 : q ≤ j + 1) (h5 : i + j < p + q) : best3 m n L i j ≤ L p q := by
  have : (p = i ∧ q = j + 1) ∨ (p = i + 1 ∧ q = j) ∨ (p = i + 1 ∧ q = j + 1) := by omega
  unfold best3
  rcases this with ⟨rfl, rfl⟩ | ⟨rfl, rfl⟩ | ⟨rfl, rfl⟩
  · rw [if_pos hq]; split <;> omega
  · rw [if_pos hp]; split <;> omega
  · rw [if_pos hq, if_pos hp]; omega
theorem IsWalk.notlast {m n T : Nat} {a b : Nat → Nat} (h : IsWalk m n T a b) {t : Nat} (ht : t < T) : ¬ (a t + 1 = m ∧ b t + 1 = n) := by
  have h1 := h.st t ht
  have h2 := h.am (t + 1) (by omega)
  have h3 := h.bn (t + 1) (by omega)
  omega
theorem walkM {m n T : Nat} {a b : Nat → Nat} {F : Nat → Nat → Int} {c : Int} (h : IsWalk m n T a b) (hF : ∀ t, t ≤ T → F (a t) (b t) ≤ c) : rst max F m n 0 0 ≤ c := by
  have key : ∀ d t, t ≤ T → T - t = d → rst max F m n (a t) (b t) ≤ c := by
    intro d
    induction d with
    | zero =>
      intro t ht hd
      obtain rfl : t = T := by omega
      rw [rst_eq (h.am t ht) (h.bn t ht), if_pos ⟨h.aT, h.bT⟩]
      exact hF t ht
    | succ d ih =>
      intro t ht hd
      have h1 := h.st t (by omega)
      have h2 := ih (t + 1) (by omega) (by omega)
      have h3 := best3_le (L := rst max F m n) (h.am (t + 1) (by omega)) (h.bn (t + 1) (by omega)) h1.1 h1.2.1 h1.2.2.1 h1.2.2.2.1 h1.2.2.2.2
      have h4 := hF t ht
      rw [rst_eq (h.am t ht) (h.bn t ht), if_neg (h.notlast (by omega))]
      omega
  have := key (T - 0) 0 (by omega) rfl
  rwa [h.a0, h.b0] at this
/-- the sum of the first k -/
def cumS (G : Nat → Int) : Nat → Int
  | 0 => 0
  | k + 1 => cumS G k + G k
theorem walkS {m n T : Nat} {a b : Nat → Nat} {F : Nat → Nat → Int} (h : IsWalk m n T a b) : rst addI F m n 0 0 ≤ cumS (fun t => F (a t) (b t)) (T + 1) := by
  have key : ∀ d t, t ≤ T → T - t = d → rst addI F m n (a t) (b t) + cumS (fun t => F (a t) (b t)) t ≤ cumS (fun t => F (a t) (b t)) (T + 1) := by
    intro d
    induction d with
    | zero =>
      intro t ht hd
      obtain rfl : t = T := by omega
      rw [rst_eq (h.am t ht) (h.bn t ht), if_pos ⟨h.aT, h.bT⟩]
      simp only [cumS]
      omega
    | succ d ih =>
      intro t ht hd
      have h1 := h.st t (by omega)
      have h2 := ih (t + 1) (by omega) (by omega)
      have h3 := best3_le (L := rst addI F m n) (h.am (t + 1) (by omega)) (h.bn (t + 1) (by omega)) h1.1 h1.2.1 h1.2.2.1 h1.2.2.2.1 h1.2.2.2.2
      rw [rst_eq (h.am t ht) (h.bn t ht), if_neg (h.notlast (by omega))]
      have e : cumS (fun t => F (a t) (b t)) (t + 1) = cumS (fun t => F (a t) (b t)) t + F (a t) (b t) := rfl
      rw [e] at h2
      unfold addI at h2 h3 ⊢
      omega
  have := key (T - 0) 0 (by omega) rfl
  rw [h.a0, h.b0] at this
  simpa [cumS] using this
theorem pathW {m n T : Nat} {L : Nat → Nat → Int} (hm : 1 ≤ m) (hn : 1 ≤ n) (h : EndsAt m n L T) : IsWalk m n T (fun t => (pth m n L t).1) (fun t => (pth m n L t).2) :=
  ⟨rfl, rfl, h.1.1, h.1.2, fun t ht => (pth_in hm hn t (fun u hu => h.2 u (by omega))).1, fun t ht => (pth_in hm hn t (fun u hu => h.2 u (by omega))).2.1, fun t ht => by
    have h1 := pth_in (L := L) hm hn t (fun u hu => h.2 u (by omega))
    have h2 := nxt_spec (L := L) h1.1 h1.2.1 (h.2 t ht)
    exact ⟨h2.2.2.1, h2.2.2.2.2.2.1, h2.2.2.2.1, h2.2.2.2.2.2.2.1, h2.2.2.2.2.1⟩⟩
theorem ends_exist {m n : Nat} (L : Nat → Nat → Int) (hm : 1 ≤ m) (hn : 1 ≤ n) : ∃ T, EndsAt m n L T := by
  have key : ∀ d t, (∀ u, u < t → ¬ ((pth m n L u).1 + 1 = m ∧ (pth m n L u).2 + 1 = n)) → m + n - ((pth m n L t).1 + (pth m n L t).2) = d → ∃ T, EndsAt m n L T := by
    intro d
    induction d using Nat.strongRecOn with
    | ind d ih =>
      intro t ht hd
      by_cases hl : (pth m n L t).1 + 1 = m ∧ (pth m n L t).2 + 1 = n
      · exact ⟨t, hl, ht⟩
      · have h1 := pth_in (L := L) hm hn t ht
        have h2 := nxt_spec (L := L) h1.1 h1.2.1 hl
        have h3 : (pth m n L t).1 + (pth m n L t).2 < (pth m n L (t + 1)).1 + (pth m n L (t + 1)).2 := h2.2.2.2.2.1
        exact ih _ (by omega) (t + 1) (fun u hu => by
          by_cases e : u = t
          · subst e; exact hl
          · exact ht u (by omega)) rfl
  exact key _ 0 (fun u hu => absurd hu (by omega)) rfl
/-- along the walk through the table of greatest distances, no distance is above it -/
theorem pathM {F : Nat → Nat → Int} {m n T : Nat} (hm : 1 ≤ m) (hn : 1 ≤ n) (h : EndsAt m n (rst max F m n) T) : ∀ t, t ≤ T → F (pth m n (rst max F m n) t).1 (pth m n (rst max F m n) t).2 ≤ rst max F m n 0 0 := by
  have key : ∀ t, t ≤ T → rst max F m n (pth m n (rst max F m n) t).1 (pth m n (rst max F m n) t).2 ≤ rst max F m n 0 0 := by
    intro t
    induction t with
    | zero => intro _; exact Int.le_refl _
    | succ t ih =>
      intro ht
      have h0 := ih (by omega)
      have h1 := pth_in (L := rst max F m n) hm hn t (fun u hu => h.2 u (by omega))
      have h2 := nxt_spec (L := rst max F m n) h1.1 h1.2.1 (h.2 t (by omega))
      have e : rst max F m n (pth m n (rst max F m n) (t + 1)).1 (pth m n (rst max F m n) (t + 1)).2 = best3 m n (rst max F m n) (pth m n (rst max F m n) t).1 (pth m n (rst max F m n) t).2 := h2.2.2.2.2.2.2.2
      have e2 := rst_eq (jn := max) (F := F) h1.1 h1.2.1
      rw [if_neg (h.2 t (by omega))] at e2
      omega
  intro t ht
  have h0 := key t ht
  have h1 := pth_in (L := rst max F m n) hm hn t (fun u hu => h.2 u (by omega))
  have e2 := rst_eq (jn := max) (F := F) h1.1 h1.2.1
  by_cases hl : (pth m n (rst max F m n) t).1 + 1 = m ∧ (pth m n (rst max F m n) t).2 + 1 = n
  · rw [if_pos hl] at e2; omega
  · rw [if_neg hl] at e2; omega
/-- along the walk through the table of sums, the sum is the least one -/
theorem pathS {F : Nat → Nat → Int} {m n T : Nat} (hm : 1 ≤ m) (hn : 1 ≤ n) (h : EndsAt m n (rst addI F m n) T) : cumS (fun t => F (pth m n (rst addI F m n) t).1 (pth m n (rst addI F m n) t).2) (T + 1) = rst addI F m n 0 0 := by
  have key : ∀ t, t ≤ T → cumS (fun t => F (pth m n (rst addI F m n) t).1 (pth m n (rst addI F m n) t).2) t + rst addI F m n (pth m n (rst addI F m n) t).1 (pth m n (rst addI F m n) t).2 = rst addI F m n 0 0 := by
    intro t
    induction t with
    | zero => intro _; simp [cumS, pth]
    | succ t ih =>
      intro ht
      have h0 := ih (by omega)
      have h1 := pth_in (L := rst addI F m n) hm hn t (fun u hu => h.2 u (by omega))
      have h2 := nxt_spec (L := rst addI F m n) h1.1 h1.2.1 (h.2 t (by omega))
      have e : rst addI F m n (pth m n (rst addI F m n) (t + 1)).1 (pth m n (rst addI F m n) (t + 1)).2 = best3 m n (rst addI F m n) (pth m n (rst addI F m n) t).1 (pth m n (rst addI F m n) t).2 := h2.2.2.2.2.2.2.2
      have e2 := rst_eq (jn := addI) (F := F) h1.1 h1.2.1
      rw [if_neg (h.2 t (by omega))] at e2
      have e3 : cumS (fun t => F (pth m n (rst addI F m n) t).1 (pth m n (rst addI F m n) t).2) (t + 1) = cumS (fun t => F (pth m n (rst addI F m n) t).1 (pth m n (rst addI F m n) t).2) t + F (pth m n (rst addI F m n) t).1 (pth m n (rst addI F m n) t).2 := rfl
      rw [e, e3]
      unfold addI at e2 h0 ⊢
      omega
  have h0 := key T (Nat.le_refl _)
  have h1 := pth_in (L := rst addI F m n) hm hn T (fun u hu => h.2 u (by omega))
  have e2 := rst_eq (jn := addI) (F := F) h1.1 h1.2.1
  rw [if_pos h.1] at e2
  rw [e2] at h0
  exact h0
theorem cumS_congr {G H : Nat → Int} {k : Nat} (h : ∀ t, t < k → G t = H t) : cumS G k = cumS H k := by
  induction k with
  | zero => rfl
  | succ k ih => simp only [cumS]; rw [ih (fun t ht => h t (by omega)), h k (by omega)]
theorem cumS_cons (G : Nat → Int) (k : Nat) : cumS G (k + 1) = G 0 + cumS (fun t => G (t + 1)) k := by
  induction k with
  | zero => simp [cumS]
  | succ k ih =>
    have e : cumS G (k + 1 + 1) = cumS G (k + 1) + G (k + 1) := rfl
    rw [e, ih]
    simp only [cumS]
    omega
theorem cumS_rev (G : Nat → Int) (T : Nat) : cumS (fun t => G (T - t)) (T + 1) = cumS G (T + 1) := by
  induction T generalizing G with
  | zero => simp [cumS]
  | succ T ih =>
    have e : cumS G (T + 1 + 1) = cumS G (T + 1) + G (T + 1) := rfl
    rw [cumS_cons, e, ← ih G]
    have e2 : cumS (fun t => G (T + 1 - (t + 1))) (T + 1) = cumS (fun t => G (T - t)) (T + 1) := cumS_congr (fun t _ => by rw [Nat.add_sub_add_right])
    simp only [Nat.sub_zero]
    rw [e2]
    omega
/-- the other way round -/
theorem IsWalk.swap {m n T : Nat} {a b : Nat → Nat} (h : IsWalk m n T a b) : IsWalk n m T b a :=
  ⟨h.b0, h.a0, h.bT, h.aT, h.bn, h.am, fun t ht => by have := h.st t ht; omega⟩
/-- from the other ends -/
theorem IsWalk.rev {m n T : Nat} {a b : Nat → Nat} (h : IsWalk m n T a b) : IsWalk m n T (fun t => m - 1 - a (T - t)) (fun t => n - 1 - b (T - t)) := by
  have ha := h.aT
  have hb := h.bT
  refine ⟨?_, ?_, ?_, ?_, fun t ht => ?_, fun t ht => ?_, fun t ht => ?_⟩
  · show m - 1 - a (T - 0) = 0; rw [Nat.sub_zero]; omega
  · show n - 1 - b (T - 0) = 0; rw [Nat.sub_zero]; omega
  · show m - 1 - a (T - T) + 1 = m; rw [Nat.sub_self, h.a0]; omega
  · show n - 1 - b (T - T) + 1 = n; rw [Nat.sub_self, h.b0]; omega
  · show m - 1 - a (T - t) < m; omega
  · show n - 1 - b (T - t) < n; omega
  · have h1 := h.st (T - (t + 1)) (by omega)
    rw [show T - (t + 1) + 1 = T - t by omega] at h1
    have h2 := h.am (T - t) (by omega)
    have h3 := h.bn (T - t) (by omega)
    show m - 1 - a (T - t) ≤ m - 1 - a (T - (t + 1)) ∧ m - 1 - a (T - (t + 1)) ≤ m - 1 - a (T - t) + 1 ∧ n - 1 - b (T - t) ≤ n - 1 - b (T - (t + 1)) ∧ n - 1 - b (T - (t + 1)) ≤ n - 1 - b (T - t) + 1 ∧ m - 1 - a (T - t) + (n - 1 - b (T - t)) < m - 1 - a (T - (t + 1)) + (n - 1 - b (T - (t + 1)))
    omega
end Go.Proofs.Ytfmcjbddbomohaa
