/-
  Settle and Burn of the program, and the numbers of a valid yard.
-/
import Derived.Test.YtlnpipkhofhlnaaH
import Derived.Test.YtlnpipkhofhlnaaE
namespace Go.Proofs.Ytlnpipkhofhlnaa
open Go.RowKit Go.Deep

theorem sumN_congr {f g : Nat → Nat} {n : Nat} (h : ∀ i, i < n → f i = g i) : sumN f n = sumN g n := by
  induction n with
  | zero => rfl
  | succ n ih => simp only [sumN]; rw [ih (fun i hi => h i (by omega)), h n (by omega)]
theorem sumN_add (f g : Nat → Nat) (n : Nat) : sumN (fun i => f i + g i) n = sumN f n + sumN g n := by
  induction n with
  | zero => rfl
  | succ n ih => simp only [sumN]; rw [ih]; omega
theorem sumN_zero {f : Nat → Nat} {n : Nat} (h : ∀ i, i < n → f i = 0) : sumN f n = 0 := by
  induction n with
  | zero => rfl
  | succ n ih => simp only [sumN]; rw [ih (fun i hi => h i (by omega)), h n (by omega)]
theorem sumN_one {f : Nat → Nat} {n v : Nat} (hv : v < n) (h : ∀ i, i < n → i ≠ v → f i = 0) : sumN f n = f v := by
  induction n with
  | zero => omega
  | succ n ih =>
    simp only [sumN]
    by_cases e : v = n
    · subst e; rw [sumN_zero (fun i hi => h i (by omega) (by omega))]; omega
    · rw [ih (by omega) (fun i hi => h i (by omega)), h n (by omega) (by omega)]; omega
theorem sumN_ge {f : Nat → Nat} {n v : Nat} (hv : v < n) : f v ≤ sumN f n := by
  induction n with
  | zero => omega
  | succ n ih =>
    simp only [sumN]
    by_cases e : v = n
    · subst e; omega
    · have := ih (by omega); omega
theorem sumN_lt {f g : Nat → Nat} {n : Nat} (h : sumN f n < sumN g n) : ∃ i, i < n ∧ f i < g i := by
  induction n with
  | zero => simp [sumN] at h
  | succ n ih =>
    simp only [sumN] at h
    by_cases e : f n < g n
    · exact ⟨n, by omega, e⟩
    · obtain ⟨i, hi, h2⟩ := ih (by omega)
      exact ⟨i, by omega, h2⟩
theorem cnt_zero {p : Nat → Bool} {n : Nat} (h : cnt p n = 0) : ∀ i, i < n → p i = false := by
  induction n with
  | zero => intro i hi; omega
  | succ n ih =>
    simp only [cnt] at h
    intro i hi
    by_cases e : i = n
    · subst e
      cases hp : p i with
      | false => rfl
      | true => rw [hp] at h; simp at h
    · exact ih (by omega) i (by omega)

theorem join_sum {n x y : Nat} {J : Nat → Nat → Nat} (hx : x < n) (hy : y < n) (hxy : x ≠ y) (v : Nat) : sumN (joinJ J x y v) n = sumN (J v) n + (if v = x then 1 else 0) + (if v = y then 1 else 0) := by
  show sumN (fun u => J v u + (if v = x ∧ u = y ∨ v = y ∧ u = x then 1 else 0)) n = _
  rw [sumN_add]
  by_cases e1 : v = x
  · subst e1
    rw [sumN_one (f := fun u => if v = v ∧ u = y ∨ v = y ∧ u = v then 1 else 0) hy (fun i _ hne => by show (if _ then 1 else 0) = 0; rw [if_neg (by omega)])]
    simp [hxy]
  · by_cases e2 : v = y
    · subst e2
      rw [sumN_one (f := fun u => if v = x ∧ u = v ∨ v = v ∧ u = x then 1 else 0) hx (fun i _ hne => by show (if _ then 1 else 0) = 0; rw [if_neg (by omega)])]
      simp [Ne.symm hxy]
    · rw [sumN_zero (f := fun u => if v = x ∧ u = y ∨ v = y ∧ u = x then 1 else 0) (fun i _ => by show (if _ then 1 else 0) = 0; rw [if_neg (by omega)])]
      simp [e1, e2]
theorem edges_sum {n : Nat} {A B : Nat → Int} {m : Nat} (h : allN (fun i => edgeB n (A i) (B i)) m = true) : (∀ i, btwN A B m i i = 0) ∧ ∀ v, sumN (btwN A B m v) n = degN A B m v := by
  induction m with
  | zero => exact ⟨fun _ => rfl, fun v => sumN_zero (fun _ _ => rfl)⟩
  | succ m ih =>
    simp only [allN, Bool.and_eq_true] at h
    obtain ⟨i1, i2⟩ := ih h.1
    obtain ⟨x, y, ha, hb, hx, hy, hxy⟩ := edgeB_true h.2
    refine ⟨fun i => ?_, fun v => ?_⟩
    · rw [btwN_succ ha hb]; unfold joinJ; rw [i1 i, if_neg (by omega)]
    · rw [degN_succ ha hb hxy, sumN_congr (g := joinJ (btwN A B m) x y v) (fun u _ => btwN_succ ha hb v u), join_sum hx hy hxy, i2 v]; rfl

/-- how far the fire has come -/
structure BInv (n : Nat) (J : Nat → Nat → Nat) (b : Nat → Bool) (l : List Nat) (p : Nat → Nat) : Prop where
  b0 : b 0 = true
  p0 : p 0 = 0
  left : cold b n + l.length + 1 = n
  low : ∀ v, v < n → b v = true → p v ≤ l.length
  rank : ∀ v, v < n → b v = true → v ≠ 0 → ∃ u, u < n ∧ b u = true ∧ p u < p v ∧ 1 ≤ J v u
theorem burnL_inv {n : Nat} {D : Nat → Nat} {J : Nat → Nat → Nat} (hs : ∀ i, i < n → sumN (J i) n = D i) (g : Nat) : ∀ b l p, BInv n J b l p → ∃ b' p', BInv n J b' (burnL n J (fun i => (D (i + 1) : Int) - 1) g b l) p' := by
  induction g with
  | zero => intro b l p h; exact ⟨b, p, h⟩
  | succ g ih =>
    intro b l p h
    simp only [burnL]
    by_cases e : catchV n J (fun i => (D (i + 1) : Int) - 1) b = 0
    · rw [if_pos e]; exact ⟨b, p, h⟩
    · rw [if_neg e]
      have hlt := (catch_hot e).1
      have hcb := catch_cold e
      have hht := (catch_hot e).2
      generalize catchV n J (fun i => (D (i + 1) : Int) - 1) b = c at *
      have hc0 : c ≠ 0 := e
      simp only [hot, Bool.and_eq_true, decide_eq_true_eq] at hht
      have hu : unb n J b c + 1 ≤ D c := by
        have := hht.2
        rw [show c - 1 + 1 = c by omega] at this
        omega
      obtain ⟨u, hu1, hu2⟩ := sumN_lt (f := fun u => if b u then 0 else J c u) (g := J c) (n := n) (by rw [hs c hlt]; exact hu)
      have hbu : b u = true := by
        cases hb : b u with
        | true => rfl
        | false => simp [hb] at hu2
      have hJu : 1 ≤ J c u := by simp [hbu] at hu2; omega
      refine ih (upd b c) (l ++ [c]) (fun v => if v = c then l.length + 1 else p v) ⟨?_, ?_, ?_, ?_, ?_⟩
      · simp [upd, h.b0]
      · show (if 0 = c then _ else _) = 0; rw [if_neg (by omega)]; exact h.p0
      · have := cold_upd hlt hcb; have := h.left; simp; omega
      · intro v hv hb
        show (if v = c then _ else _) ≤ _
        by_cases ev : v = c
        · rw [if_pos ev]; simp
        · rw [if_neg ev]
          have hb' : b v = true := by simpa [upd, ev] using hb
          have := h.low v hv hb'; simp; omega
      · intro v hv hb hv0
        by_cases ev : v = c
        · subst ev
          refine ⟨u, hu1, by simp [upd, hbu], ?_, hJu⟩
          show (if u = v then _ else _) < (if v = v then _ else _)
          rw [if_pos rfl, if_neg (fun h => by subst h; rw [hbu] at hcb; cases hcb)]
          have := h.low u hu1 hbu; omega
        · have hb' : b v = true := by simpa [upd, ev] using hb
          obtain ⟨u2, h1, h2, h3, h4⟩ := h.rank v hv hb' hv0
          refine ⟨u2, h1, by simp [upd, h2], ?_, h4⟩
          show (if u2 = c then _ else _) < (if v = c then _ else _)
          rw [if_neg ev, if_neg (fun h => by subst h; rw [h2] at hcb; cases hcb)]
          exact h3
theorem con_ranked {n : Nat} {D : Nat → Nat} {J : Nat → Nat → Nat} (hn : 1 ≤ n) (hn8 : n ≤ 8) (hs : ∀ i, i < n → sumN (J i) n = D i) (h : conB n D J = true) : ∃ p, Ranked n J p := by
  have hstart : BInv n J (fun i => decide (i = 0)) [] (fun _ => 0) := by
    refine ⟨rfl, rfl, ?_, fun _ _ _ => Nat.le_refl _, fun v _ hb hv => absurd (by simpa using hb) hv⟩
    have h1 := cold_upd (b := fun _ => false) (n := n) (v := 0) (by omega) rfl
    have h2 : cold (fun _ => false) n = n := by
      unfold cold
      clear hs h h1 hn hn8
      induction n with
      | zero => rfl
      | succ n ih => simp only [cnt]; rw [ih]; simp
    have h3 : cold (upd (fun _ => false) 0) n = cold (fun i => decide (i = 0)) n := cnt_congr (fun i _ => by by_cases e : i = 0 <;> simp [upd, e])
    simp only [List.length_nil]; omega
  obtain ⟨b, p, inv⟩ := burnL_inv hs n _ _ _ hstart
  have hlen : (burnAll n J (fun i => (D (i + 1) : Int) - 1)).length = n - 1 := by simpa [conB] using h
  have hcold : cold b n = 0 := by have := inv.left; unfold burnAll at hlen; omega
  have hb : ∀ v, v < n → b v = true := fun v hv => by have := cnt_zero hcold v hv; simpa using this
  refine ⟨p, inv.p0, fun v h1 hv => ⟨?_, ?_⟩⟩
  · have := inv.low v hv (hb v hv); unfold burnAll at hlen; omega
  · obtain ⟨u, h2, _, h3, h4⟩ := inv.rank v hv (hb v hv) (by omega)
    exact ⟨u, h2, h3, h4⟩
theorem good_ok {n : Int} {A B : Nat → Int} {m : Nat} (h : goodB n A B m = true) : YardOk n.toNat (degN A B m) (btwN A B m) ∧ (∃ p, Ranked n.toNat (btwN A B m) p) ∧ m ≤ 20 ∧ allN (fun i => edgeB n.toNat (A i) (B i)) m = true := by
  simp only [goodB, Bool.and_eq_true, decide_eq_true_eq] at h
  obtain ⟨⟨⟨⟨h1, h2⟩, h3⟩, h4⟩, h5⟩ := h
  obtain ⟨j0, js⟩ := edges_sum h4
  obtain ⟨p, hp⟩ := con_ranked (by omega) (by omega) (fun i _ => js i) h5
  refine ⟨⟨by omega, by omega, fun i _ => Nat.le_trans (cnt_le _ _) h3, fun i hi1 hi => ?_, fun i j _ _ => Nat.le_trans (cnt_le _ _) h3, fun i _ => j0 i, fun i j => ?_, fun i _ => js i⟩, ⟨p, hp⟩, h3, h4⟩
  · obtain ⟨_, u, hu, _, hJ⟩ := hp.2 i hi1 hi
    rw [← js i]
    exact Nat.le_trans hJ (sumN_ge hu)
  · exact cnt_congr (fun k _ => by cases A k == (i : Int) <;> cases B k == (j : Int) <;> cases A k == (j : Int) <;> cases B k == (i : Int) <;> rfl)
end Go.Proofs.Ytlnpipkhofhlnaa
