/-
  The pair that comes next is the first one of the best; walks end in one way. No memory here.
-/
import Derived.Test.YtfmcjbddbomohaaPa
import Derived.Test.YtfmcjbddbomohaaRd
namespace Go.Proofs.Ytfmcjbddbomohaa

def okC (m n i j d : Nat) : Prop := (cand i j d).1 < m ∧ (cand i j d).2 < n
theorem cand_pos (i j d : Nat) : cand i j d ≠ (0, 0) := by
  unfold cand
  intro h
  split at h
  · cases h
  · split at h <;> cases h
theorem bsteps_pick {m n i j : Nat} {L : Nat → Nat → Int} (k : Nat) :
    (bsteps m n L i j k = (0, 0) ∧ ∀ d, d < k → ¬ okC m n i j d) ∨
    ∃ c, c < k ∧ cand i j c = bsteps m n L i j k ∧ okC m n i j c ∧ (∀ d, d < c → okC m n i j d → L (cand i j c).1 (cand i j c).2 < L (cand i j d).1 (cand i j d).2) ∧ ∀ d, d < k → okC m n i j d → L (cand i j c).1 (cand i j c).2 ≤ L (cand i j d).1 (cand i j d).2 := by
  induction k with
  | zero => exact .inl ⟨rfl, fun d hd => absurd hd (by omega)⟩
  | succ k ih =>
    have hs : bsteps m n L i j (k + 1) = bstep m n L (bsteps m n L i j k) (cand i j k) := rfl
    rcases ih with ⟨h0, hno⟩ | ⟨c, hc, hcb, hok, hlt, hle⟩
    · by_cases hk : okC m n i j k
      · right
        refine ⟨k, by omega, ?_, hk, fun d hd hd2 => absurd hd2 (hno d hd), fun d hd hd2 => ?_⟩
        · rw [hs]; unfold bstep; rw [if_pos ⟨hk.1, hk.2, .inl h0⟩]
        · by_cases e : d = k
          · subst e; exact Int.le_refl _
          · exact absurd hd2 (hno d (by omega))
      · left
        refine ⟨?_, fun d hd => ?_⟩
        · rw [hs]; unfold bstep; rw [if_neg (fun h => hk ⟨h.1, h.2.1⟩)]; exact h0
        · by_cases e : d = k
          · subst e; exact hk
          · exact hno d (by omega)
    · right
      by_cases hk : okC m n i j k ∧ L (cand i j k).1 (cand i j k).2 < L (cand i j c).1 (cand i j c).2
      · refine ⟨k, by omega, ?_, hk.1, fun d hd hd2 => ?_, fun d hd hd2 => ?_⟩
        · rw [hs]; unfold bstep; rw [if_pos ⟨hk.1.1, hk.1.2, .inr (by rw [← hcb]; exact hk.2)⟩]
        · have := hle d hd hd2; omega
        · by_cases e : d = k
          · subst e; exact Int.le_refl _
          · have := hle d (by omega) hd2; omega
      · refine ⟨c, by omega, ?_, hok, hlt, fun d hd hd2 => ?_⟩
        · rw [hs]; unfold bstep
          rw [if_neg (fun h => by
            rcases h.2.2 with h3 | h3
            · rw [h3] at hcb; exact cand_pos i j c hcb
            · rw [← hcb] at h3; exact hk ⟨⟨h.1, h.2.1⟩, h3⟩)]
          exact hcb
        · by_cases e : d = k
          · subst e
            exact Int.not_lt.1 (fun h => hk ⟨hd2, h⟩)
          · exact hle d (by omega) hd2
theorem nxt_pick {m n i j : Nat} {L : Nat → Nat → Int} (hi : i < m) (hj : j < n) (hl : ¬ (i + 1 = m ∧ j + 1 = n)) :
    ∃ c, c < 3 ∧ cand i j c = nxt m n L i j ∧ ∀ d, d < c → (cand i j d).1 < m → (cand i j d).2 < n → L (nxt m n L i j).1 (nxt m n L i j).2 < L (cand i j d).1 (cand i j d).2 := by
  rcases bsteps_pick (m := m) (n := n) (i := i) (j := j) (L := L) 3 with ⟨_, hno⟩ | ⟨c, hc, hcb, _, hlt, _⟩
  · exfalso
    have h0 := hno 0 (by omega)
    have h1 := hno 1 (by omega)
    unfold okC at h0 h1
    rw [cand0] at h0
    rw [cand1] at h1
    simp only at h0 h1
    omega
  · refine ⟨c, hc, hcb, fun d hd h1 h2 => ?_⟩
    have := hlt d hd ⟨h1, h2⟩
    rw [hcb] at this
    exact this
theorem ends_unique {m n : Nat} {L : Nat → Nat → Int} {t u : Nat} (h : EndsAt m n L t) (k : EndsAt m n L u) : t = u := by
  rcases Nat.lt_trichotomy t u with h1 | h1 | h1
  · exact absurd h.1 (k.2 t h1)
  · exact h1
  · exact absurd k.1 (h.2 u h1)
/-- the sums along the walk -/
theorem sum_step {X Y U V : Nat → Int} {m n t : Nat} (hm : 1 ≤ m) (hn : 1 ≤ n) (h : ∀ u, u ≤ t → ¬ ((pth m n (rstS X Y U V m n) u).1 + 1 = m ∧ (pth m n (rstS X Y U V m n) u).2 + 1 = n)) :
    rstS X Y U V m n (pth m n (rstS X Y U V m n) (t + 1)).1 (pth m n (rstS X Y U V m n) (t + 1)).2 = rstS X Y U V m n (pth m n (rstS X Y U V m n) t).1 (pth m n (rstS X Y U V m n) t).2 - dist (X (pth m n (rstS X Y U V m n) t).1) (Y (pth m n (rstS X Y U V m n) t).1) (U (pth m n (rstS X Y U V m n) t).2) (V (pth m n (rstS X Y U V m n) t).2) := by
  have h1 := pth_in (L := rstS X Y U V m n) hm hn t (fun u hu => h u (by omega))
  have h2 := nxt_spec (L := rstS X Y U V m n) h1.1 h1.2.1 (h t (Nat.le_refl _))
  have e : rstS X Y U V m n (pth m n (rstS X Y U V m n) (t + 1)).1 (pth m n (rstS X Y U V m n) (t + 1)).2 = best3 m n (rstS X Y U V m n) (pth m n (rstS X Y U V m n) t).1 (pth m n (rstS X Y U V m n) t).2 := h2.2.2.2.2.2.2.2
  have e2 : rstS X Y U V m n (pth m n (rstS X Y U V m n) t).1 (pth m n (rstS X Y U V m n) t).2 = addI (distF X Y U V (pth m n (rstS X Y U V m n) t).1 (pth m n (rstS X Y U V m n) t).2) (best3 m n (rstS X Y U V m n) (pth m n (rstS X Y U V m n) t).1 (pth m n (rstS X Y U V m n) t).2) := by
    have := rst_eq (jn := addI) (F := distF X Y U V) h1.1 h1.2.1
    rw [if_neg (h t (Nat.le_refl _))] at this
    exact this
  rw [e, e2]
  unfold addI distF
  omega
end Go.Proofs.Ytfmcjbddbomohaa
