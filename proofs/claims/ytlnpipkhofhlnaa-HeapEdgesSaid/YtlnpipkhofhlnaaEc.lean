/-
  The counts of a yard, with one more edge, and merged. No memory here.
-/
import Derived.Test.YtlnpipkhofhlnaaEj
namespace Go.Proofs.Ytlnpipkhofhlnaa
open Go.RowKit

theorem sumN_skip (g : Nat → Nat) {b : Nat} : ∀ {n : Nat}, b < n + 1 → sumN g (n + 1) = sumN (fun v => g (skp b v)) n + g b := by
  intro n
  induction n with
  | zero =>
    intro h
    obtain rfl : b = 0 := by omega
    show 0 + g 0 = 0 + g 0
    rfl
  | succ n ih =>
    intro h
    by_cases e : b = n + 1
    · subst e
      show sumN g (n + 1) + g (n + 1) = _
      rw [sumN_congr (f := g) (g := fun v => g (skp (n + 1) v)) (fun v hv => by unfold skp; rw [if_pos hv])]
    · show sumN g (n + 1) + g (n + 1) = sumN (fun v => g (skp b v)) n + g (skp b n) + g b
      rw [ih (by omega), show skp b n = n + 1 by unfold skp; rw [if_neg (by omega)]]; omega
theorem near_reach {A B : Nat → Int} {m : Nat} : ∀ (r : Nat) (v : Int), Near A B m r v → Reach A B m v := by
  intro r
  induction r with
  | zero => intro v h; intro C h0 _; rw [show v = 0 from h]; exact h0
  | succ r ih =>
    rintro v (h | ⟨i, hi, ⟨hv, h⟩ | ⟨hv, h⟩⟩)
    · exact ih v h
    · rw [← hv]; exact Reach.ba hi (ih _ h)
    · rw [← hv]; exact Reach.ab hi (ih _ h)
theorem good_reach {n : Nat} {A B : Nat → Int} {m : Nat} (h : goodB (n : Int) A B m = true) : ∀ v : Nat, v < n → Reach A B m (v : Int) := by
  unfold goodB at h
  simp only [Int.toNat_natCast, Bool.and_eq_true, decide_eq_true_eq] at h
  obtain ⟨⟨⟨⟨h1, _⟩, _⟩, hE⟩, hc⟩ := h
  exact fun v hv => near_reach n v (con_near (by omega) hE hc v hv)
theorem reach_good {n : Nat} {A B : Nat → Int} {m : Nat} (h2 : 2 ≤ n) (h8 : n ≤ 8) (hm : m ≤ 20) (hE : ∀ i, i < m → edgeB n (A i) (B i) = true) (hR : ∀ v : Nat, v < n → Reach A B m (v : Int)) : goodB (n : Int) A B m = true := by
  have hE' : allN (fun i => edgeB n (A i) (B i)) m = true := allN_true.2 hE
  unfold goodB
  simp only [Int.toNat_natCast, hE', Bool.and_true, Bool.and_eq_true, decide_eq_true_eq]
  refine ⟨⟨⟨by omega, by omega⟩, hm⟩, ?_⟩
  cases hc : conB n (degN A B m) (btwN A B m) with
  | true => rfl
  | false =>
    obtain ⟨v, hv, hn⟩ := con_false (by omega) hE' hc
    exact absurd (hR v hv) hn
theorem good_edge {n : Nat} {A B : Nat → Int} {m : Nat} (h : goodB (n : Int) A B m = true) : ∀ i, i < m → edgeB n (A i) (B i) = true := by
  obtain ⟨_, _, _, hE⟩ := good_ok h
  exact fun i hi => allN_true.1 hE i hi
/-- one more edge -/
theorem more_good {n m a b : Nat} {A B : Nat → Int} (h : goodB (n : Int) A B m = true) (hm : m ≤ 19) (ha : a < n) (hb : b < n) (hab : a ≠ b) : goodB (n : Int) (snoc A m a) (snoc B m b) (m + 1) = true := by
  obtain ⟨ok, _⟩ := good_ok h
  simp only [Int.toNat_natCast] at ok
  refine reach_good ok.n2 ok.n8 (by omega) (fun i hi => ?_) (fun v hv => ?_)
  · by_cases e : i = m
    · subst e; rw [snoc_at, snoc_at]; exact edge_mk ha hb hab
    · rw [snoc_lt (by omega), snoc_lt (by omega)]; exact good_edge h i (by omega)
  · intro C h0 hC
    exact good_reach h v hv C h0 (fun i hi => by have := hC i (by omega); rwa [snoc_lt hi, snoc_lt hi] at this)
/-- the merged yard -/
theorem join_good {n m a b m' : Nat} {A B A' B' : Nat → Int} (h : goodB ((n + 1 : Nat) : Int) A B m = true) (hn : 2 ≤ n) (hab : a < b) (hm : m ≤ 20) (hj : JoinI n a b A B m A' B' m') : goodB (n : Int) A' B' m' = true := by
  obtain ⟨ok, _⟩ := good_ok h
  simp only [Int.toNat_natCast] at ok
  refine reach_good hn (by have := ok.n8; omega) (by have := hj.le; omega) hj.edge (fun v hv => ?_)
  intro C h0 hC
  have hr := good_reach h (skp b v) (by unfold skp; split <;> omega) (fun x => C ((mph a b x.toNat : Nat) : Int)) (by
    show C ((mph a b 0 : Nat) : Int) = false
    rw [show mph a b 0 = 0 by unfold mph; rw [if_neg (by omega), if_neg (by omega)]]; exact h0) (fun i hi => by
    obtain ⟨x, y, hx, hy, _, _, _⟩ := edgeB_true (good_edge h i hi)
    show C ((mph a b (A i).toNat : Nat) : Int) = C ((mph a b (B i).toNat : Nat) : Int)
    rw [hx, hy]
    exact hj.reach C hC i hi x y hx hy)
  have hr' : C ((mph a b (skp b v) : Nat) : Int) = false := hr
  rwa [mph_skp] at hr'
/-- degrees in the merged yard -/
theorem merg_deg {n : Nat} {D : Nat → Nat} {J J' : Nat → Nat → Nat} {a b : Nat} (ok : YardOk (n + 1) D J) (hab : a < b) (hb : b < n + 1) (h0 : ∀ u, J' u u = 0) (hJ : ∀ u v, u ≠ v → J' u v = mergJ J a b u v) {u : Nat} (hu : u < n) :
    sumN (J' u) n + (if u = a then 2 * J a b else 0) = D (skp b u) + (if u = a then D b else 0) := by
  have hs : skp b u < n + 1 := by unfold skp; split <;> omega
  have e0 : sumN (fun v => mergJ J a b u v) n = sumN (fun v => if v = u then mergJ J a b u u else 0) n + sumN (J' u) n := by
    rw [← sumN_add]
    refine sumN_congr (fun v hv => ?_)
    by_cases e : v = u
    · subst e; rw [if_pos rfl, h0]; omega
    · rw [if_neg e, hJ u v (Ne.symm e)]; omega
  have e1 : sumN (fun v => if v = u then mergJ J a b u u else 0) n = mergJ J a b u u := by
    rw [sumN_one (f := fun v => if v = u then mergJ J a b u u else 0) hu (fun v _ hne => if_neg hne), if_pos rfl]
  have e2 : sumN (fun v => J (skp b u) (skp b v)) n + J (skp b u) b = D (skp b u) := by rw [← ok.sum _ hs]; exact (sumN_skip (J (skp b u)) hb).symm
  have e3 : sumN (fun v => J b (skp b v)) n + J b b = D b := by rw [← ok.sum b hb]; exact (sumN_skip (J b) hb).symm
  have e4 : sumN (fun v => if v = a then J (skp b u) b else 0) n = J (skp b u) b := by
    rw [sumN_one (f := fun v => if v = a then J (skp b u) b else 0) (show a < n by omega) (fun v _ hne => if_neg hne), if_pos rfl]
  have hbb := ok.J0 b hb
  have huu := ok.J0 _ hs
  have hka : skp b a = a := by unfold skp; rw [if_pos hab]
  have e5 : sumN (fun v => mergJ J a b u v) n = sumN (fun v => J (skp b u) (skp b v)) n + sumN (fun v => if u = a then J b (skp b v) else 0) n + sumN (fun v => if v = a then J (skp b u) b else 0) n := by
    rw [← sumN_add, ← sumN_add]
    exact sumN_congr (fun v _ => rfl)
  rw [e1] at e0
  rw [e4] at e5
  by_cases e : u = a
  · subst e
    rw [hka] at hs e2 huu e5 ⊢
    rw [if_pos rfl, if_pos rfl]
    have e6 : sumN (fun v => if u = u then J b (skp b v) else 0) n = sumN (fun v => J b (skp b v)) n := sumN_congr (fun v _ => if_pos rfl)
    have e7 : mergJ J u b u u = J u u + J b u + J u b := by unfold mergJ; rw [if_pos rfl, if_pos rfl, hka]
    have e8 := ok.sym b u
    omega
  · rw [if_neg e, if_neg e]
    have e6 : sumN (fun v => if u = a then J b (skp b v) else 0) n = 0 := sumN_zero (fun v _ => if_neg e)
    have e7 : mergJ J a b u u = 0 := by unfold mergJ; rw [if_neg e, if_neg e, huu]
    omega
theorem skp_succ (b i : Nat) : skp (b + 1) (i + 1) = skp b i + 1 := by unfold skp; (repeat' split) <;> omega
theorem skp_inj {b i j : Nat} : skp b i = skp b j ↔ i = j := by unfold skp; (repeat' split) <;> omega
theorem lap_river {N b : Nat} {D D' : Nat → Nat} {J J' : Nat → Nat → Nat} (ok : YardOk (N + 2) D J) (hb : b < N + 1) (h0 : ∀ u, J' u u = 0) (hJ : ∀ u v, u ≠ v → J' u v = mergJ J 0 (b + 1) u v) (hD : ∀ u, sumN (J' u) (N + 1) = D' u) :
    ∀ i j, i < N → j < N → minM (lapM D J) b b i j = lapM D' J' i j := fun i j hi hj => by
  unfold minM lapM
  by_cases e : i = j
  · subst e
    rw [if_pos rfl, if_pos rfl]
    have := merg_deg ok (show 0 < b + 1 by omega) (show b + 1 < N + 2 by omega) h0 hJ (show i + 1 < N + 1 by omega)
    rw [if_neg (by omega), if_neg (by omega), hD, skp_succ] at this
    omega
  · rw [if_neg (fun h => e (skp_inj.1 h)), if_neg e, hJ (i + 1) (j + 1) (by omega)]
    unfold mergJ
    rw [if_neg (by omega), if_neg (by omega), skp_succ, skp_succ]
    rfl
theorem lap_two {N a b : Nat} {D D' : Nat → Nat} {J J' : Nat → Nat → Nat} (ok : YardOk (N + 2) D J) (hab : a < b) (hb : b < N + 1) (h0 : ∀ u, J' u u = 0) (hJ : ∀ u v, u ≠ v → J' u v = mergJ J (a + 1) (b + 1) u v) (hD : ∀ u, sumN (J' u) (N + 1) = D' u) :
    ∀ i j, i < N → j < N → mergM (lapM D J) a b i j = lapM D' J' i j := fun i j hi hj => by
  have hm : ∀ u, u < N → (D' (u + 1) : Int) + (if u = a then 2 * (J (a + 1) (b + 1) : Int) else 0) = (D (skp b u + 1) : Int) + (if u = a then (D (b + 1) : Int) else 0) := fun u hu => by
    have := merg_deg ok (show a + 1 < b + 1 by omega) (show b + 1 < N + 2 by omega) h0 hJ (show u + 1 < N + 1 by omega)
    rw [hD, skp_succ] at this
    by_cases e : u = a
    · subst e
      rw [if_pos rfl, if_pos rfl] at this ⊢
      omega
    · rw [if_neg (by omega), if_neg (by omega)] at this
      rw [if_neg e, if_neg e]; omega
  have hsa : skp b a = a := by unfold skp; rw [if_pos hab]
  have hsi : skp b i ≠ b := skp_ne
  have hsj : skp b j ≠ b := skp_ne
  have hia : skp b i = a ↔ i = a := by rw [← hsa, skp_inj, hsa]
  have hja : skp b j = a ↔ j = a := by rw [← hsa, skp_inj, hsa]
  have hij : skp b i = skp b j ↔ i = j := skp_inj
  have hmi := hm i hi
  have hsym := ok.sym (b + 1) (a + 1)
  unfold mergM rowM
  rw [if_neg hsj]
  by_cases e1 : i = a
  · rw [if_pos e1]
    subst e1
    rw [if_pos rfl, if_pos rfl, hsa] at hmi
    by_cases e2 : j = i
    · subst e2
      rw [hsa, if_pos rfl]
      show (lapM D J j j + lapM D J b j) + (lapM D J j b + lapM D J b b) = lapM D' J' j j
      unfold lapM
      rw [if_pos rfl, if_neg (show ¬ b = j by omega), if_neg (show ¬ j = b by omega), if_pos rfl, if_pos rfl, hsym]
      omega
    · rw [if_neg (fun h => e2 (hja.1 h))]
      show lapM D J i (skp b j) + lapM D J b (skp b j) = lapM D' J' i j
      unfold lapM
      rw [if_neg (fun h => e2 (hja.1 h.symm)), if_neg (fun h => hsj h.symm), if_neg (fun h => e2 h.symm), hJ (i + 1) (j + 1) (by omega)]
      unfold mergJ
      rw [if_pos rfl, if_neg (show ¬ j + 1 = i + 1 by omega), skp_succ, skp_succ, hsa]
      omega
  · rw [if_neg e1]
    rw [if_neg e1, if_neg e1] at hmi
    by_cases e2 : j = a
    · subst e2
      rw [hsa, if_pos rfl]
      show lapM D J (skp b i) j + lapM D J (skp b i) b = lapM D' J' i j
      unfold lapM
      rw [if_neg (fun h => e1 (hia.1 h)), if_neg hsi, if_neg e1, hJ (i + 1) (j + 1) (by omega)]
      unfold mergJ
      rw [if_neg (show ¬ i + 1 = j + 1 by omega), if_pos rfl, skp_succ, skp_succ, hsa]
      omega
    · rw [if_neg (fun h => e2 (hja.1 h))]
      unfold lapM
      by_cases e3 : i = j
      · subst e3
        rw [if_pos rfl, if_pos rfl]; omega
      · rw [if_neg (fun h => e3 (hij.1 h)), if_neg e3, hJ (i + 1) (j + 1) (by omega)]
        unfold mergJ
        rw [if_neg (by omega), if_neg (by omega), skp_succ, skp_succ]
        rfl
/-- the counts add up -/
theorem counts_add {N m a b m' : Nat} {A B A' B' : Nat → Int} (hN : 1 ≤ N) (hg : goodB ((N + 2 : Nat) : Int) A B m = true) (hm : m ≤ 19) (hab : a < b) (hb : b < N + 2) (hj : JoinI (N + 1) a b A B m A' B' m') :
    countI (N + 2) (degN (snoc A m a) (snoc B m b) (m + 1)) (btwN (snoc A m a) (snoc B m b) (m + 1)) = countI (N + 2) (degN A B m) (btwN A B m) + countI (N + 1) (degN A' B' m') (btwN A' B' m') := by
  obtain ⟨ok, ⟨p, hp⟩, _, _⟩ := good_ok hg
  obtain ⟨ok2, ⟨p2, hp2⟩, _, _⟩ := good_ok (more_good hg hm (show a < N + 2 by omega) hb (by omega))
  obtain ⟨ok3, ⟨p3, hp3⟩, _, hE3⟩ := good_ok (join_good (n := N + 1) hg (by omega) hab (by omega) hj)
  simp only [Int.toNat_natCast] at ok hp ok2 hp2 ok3 hp3 hE3
  obtain ⟨i1, i2⟩ := edges_sum hE3
  rw [count_eq ok hp, count_eq ok2 hp2, count_eq ok3 hp3, ← detR_DD, ← detR_DD, ← detR_DD]
  have hD2 : degN (snoc A m a) (snoc B m b) (m + 1) = joinD (degN A B m) a b := funext (fun u => degN_snoc (by omega) u)
  have hJ2 : btwN (snoc A m a) (snoc B m b) (m + 1) = joinJ (btwN A B m) a b := funext (fun u => funext (fun v => btwN_snoc u v))
  rw [hD2, hJ2]
  obtain ⟨D, hD⟩ : ∃ D, D = degN A B m := ⟨_, rfl⟩
  obtain ⟨J, hJ⟩ : ∃ J, J = btwN A B m := ⟨_, rfl⟩
  have hbtw := hj.btw
  rw [← hD, ← hJ] at ok ⊢
  rw [← hJ] at hbtw
  obtain ⟨b, rfl⟩ : ∃ k, b = k + 1 := ⟨b - 1, by omega⟩
  rcases Nat.eq_zero_or_pos a with e | e
  · subst e
    rw [edge_river (M := lapM D J) (M' := lapM (joinD D 0 (b + 1)) (joinJ J 0 (b + 1))) (N := N) (b := b) (by omega) (fun i hi => ?_) ?_]
    · congr 1
      rw [← detE_FF, ← detE_FF]
      exact detE_congr (lap_river ok (by omega) i1 hbtw i2)
    · funext j
      unfold lapM joinD joinJ unitR
      rw [if_neg (show ¬ b + 1 = 0 by omega), if_pos (show b + 1 = b + 1 from rfl), if_neg (show ¬ (b + 1 = 0 ∧ j + 1 = b + 1 ∨ b + 1 = b + 1 ∧ j + 1 = 0) by omega)]
      by_cases e2 : b = j
      · rw [if_pos e2, if_pos e2, if_pos e2.symm]; omega
      · rw [if_neg e2, if_neg e2, if_neg (fun h => e2 h.symm)]; omega
    · funext j
      unfold lapM joinD joinJ
      rw [if_neg (show ¬ i + 1 = 0 by omega), if_neg (show ¬ i + 1 = b + 1 by omega), if_neg (show ¬ (i + 1 = 0 ∧ j + 1 = b + 1 ∨ i + 1 = b + 1 ∧ j + 1 = 0) by omega)]
      rfl
  · obtain ⟨a, rfl⟩ : ∃ k, a = k + 1 := ⟨a - 1, by omega⟩
    obtain ⟨N, rfl⟩ : ∃ k, N = k + 1 := ⟨N - 1, by omega⟩
    rw [edge_two (M := lapM D J) (M' := lapM (joinD D (a + 1) (b + 1)) (joinJ J (a + 1) (b + 1))) (N := N) (a := a) (b := b) (by omega) (by omega) (fun i ha1 hb1 => ?_) ?_ ?_]
    · congr 1
      rw [← detE_FF, ← detE_FF]
      exact detE_congr (lap_two ok (by omega) (by omega) i1 hbtw i2)
    · funext j
      unfold lapM joinD joinJ unitR
      rw [if_pos (show a + 1 = a + 1 from rfl), if_neg (show ¬ a + 1 = b + 1 by omega)]
      by_cases e2 : a = j
      · rw [if_pos e2, if_pos e2, if_pos e2.symm, if_neg (show ¬ j = b by omega)]; omega
      · rw [if_neg e2, if_neg e2, if_neg (show ¬ j = a from fun h => e2 h.symm)]
        by_cases e3 : j = b
        · rw [if_pos e3, if_pos (show a + 1 = a + 1 ∧ j + 1 = b + 1 ∨ a + 1 = b + 1 ∧ j + 1 = a + 1 by omega)]; omega
        · rw [if_neg e3, if_neg (show ¬ (a + 1 = a + 1 ∧ j + 1 = b + 1 ∨ a + 1 = b + 1 ∧ j + 1 = a + 1) by omega)]; omega
    · funext j
      unfold lapM joinD joinJ unitR
      rw [if_neg (show ¬ b + 1 = a + 1 by omega), if_pos (show b + 1 = b + 1 from rfl)]
      by_cases e2 : b = j
      · rw [if_pos e2, if_pos e2, if_neg (show ¬ j = a by omega), if_pos e2.symm]; omega
      · rw [if_neg e2, if_neg e2, if_neg (show ¬ j = b from fun h => e2 h.symm)]
        by_cases e3 : j = a
        · rw [if_pos e3, if_pos (show b + 1 = a + 1 ∧ j + 1 = b + 1 ∨ b + 1 = b + 1 ∧ j + 1 = a + 1 by omega)]; omega
        · rw [if_neg e3, if_neg (show ¬ (b + 1 = a + 1 ∧ j + 1 = b + 1 ∨ b + 1 = b + 1 ∧ j + 1 = a + 1) by omega)]; omega
    · funext j
      unfold lapM joinD joinJ
      rw [if_neg (show ¬ i + 1 = a + 1 by omega), if_neg (show ¬ i + 1 = b + 1 by omega), if_neg (show ¬ (i + 1 = a + 1 ∧ j + 1 = b + 1 ∨ i + 1 = b + 1 ∧ j + 1 = a + 1) by omega)]
      rfl
end Go.Proofs.Ytlnpipkhofhlnaa
