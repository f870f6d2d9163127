/-
  Signed sums over groups (plain numbers): one horse taken out; groups in their order; horses numbered anew.
-/
import Derived.Test.YtlnlddnjalfamaaGreatDoorJj
import Derived.Test.YtlnlddnjalfamaaGreatDoorJf
namespace Go.Proofs.YtlnlddnjalfamaaGreatDoor

/-- the sum of (-1)^size over the groups of the horses below k that have P -/
def al (F : Nat → Nat → Bool) : Nat → (Nat → Bool) → Int
  | 0, _ => 1
  | k + 1, P => if P k then al F k P - al F k (fun i => P i && F k i) else al F k P
theorem al_congr {F G : Nat → Nat → Bool} : ∀ (k : Nat) (P Q : Nat → Bool), (∀ i j, i < k → j < k → F i j = G i j) → (∀ i, i < k → P i = Q i) → al F k P = al G k Q := by
  intro k
  induction k with
  | zero => intro P Q _ _; rfl
  | succ k ih =>
    intro P Q hF h
    have hF' : ∀ i j, i < k → j < k → F i j = G i j := fun i j hi hj => hF i j (by omega) (by omega)
    simp only [al]
    rw [h k (by omega), ih P Q hF' (fun i hi => h i (by omega)), ih (fun i => P i && F k i) (fun i => Q i && G k i) hF' (fun i hi => by rw [h i (by omega), hF k i (by omega) (by omega)])]
theorem al_cong {F : Nat → Nat → Bool} {k : Nat} {P Q : Nat → Bool} (h : ∀ i, i < k → P i = Q i) : al F k P = al F k Q := al_congr k P Q (fun _ _ _ _ => rfl) h
theorem al_none {F : Nat → Nat → Bool} : ∀ (k : Nat) (P : Nat → Bool), (∀ i, i < k → P i = false) → al F k P = 1 := by
  intro k
  induction k with
  | zero => intro P _; rfl
  | succ k ih =>
    intro P h
    simp only [al]
    rw [h k (by omega), if_neg (by simp), ih P (fun i hi => h i (by omega))]
theorem al_del {F : Nat → Nat → Bool} {n : Nat} (hs : Sym F n) : ∀ k, k ≤ n → ∀ (P : Nat → Bool) (v : Nat), v < k → P v = true → al F k P = al F k (fun i => P i && !decide (i = v)) - al F k (fun i => P i && F v i) := by
  intro k
  induction k with
  | zero => intro _ P v hv; omega
  | succ k ih =>
    intro hk P v hv hP
    by_cases e : v = k
    · subst e
      simp only [al]
      rw [if_pos hP, if_neg (by simp), if_neg (by rw [hs.irr v (by omega)]; simp)]
      congr 1
      exact al_cong fun i hi => by simp [show ¬ i = v by omega]
    · have hvk : v < k := by omega
      have h1 := ih (by omega) P v hvk hP
      cases e1 : P k with
      | false =>
        simp only [al]
        rw [e1, if_neg (by simp), if_neg (by simp), if_neg (by simp)]
        exact h1
      | true =>
        have e3 : (P k && !decide (k = v)) = true := by simp [e1, show ¬ k = v by omega]
        cases e2 : F k v with
        | true =>
          have h2 := ih (by omega) (fun i => P i && F k i) v hvk (by simp [hP, e2])
          simp only [al]
          rw [if_pos e1, if_pos e3, if_pos (by rw [e1, hs.sym v k (by omega) (by omega), e2]; rfl), h1, h2]
          rw [al_cong (F := F) (k := k) (P := fun i => (P i && F k i) && !decide (i = v)) (Q := fun i => (P i && !decide (i = v)) && F k i) (fun i _ => by cases P i <;> cases F k i <;> cases decide (i = v) <;> rfl),
            al_cong (F := F) (k := k) (P := fun i => (P i && F k i) && F v i) (Q := fun i => (P i && F v i) && F k i) (fun i _ => by cases P i <;> cases F k i <;> cases F v i <;> rfl)]
          omega
        | false =>
          simp only [al]
          rw [if_pos e1, if_pos e3, if_neg (by rw [hs.sym v k (by omega) (by omega), e2]; simp), h1]
          rw [al_cong (F := F) (k := k) (P := fun i => (P i && !decide (i = v)) && F k i) (Q := fun i => P i && F k i) (fun i _ => by
            by_cases e4 : i = v
            · rw [e4, e2]; simp
            · simp [e4])]
          omega
def zsum (f : Nat → Int) : Nat → Int
  | 0 => 0
  | k + 1 => zsum f k + f k
theorem zsum_congr {f g : Nat → Int} {n : Nat} (h : ∀ i, i < n → f i = g i) : zsum f n = zsum g n := by
  induction n with
  | zero => rfl
  | succ n ih => simp only [zsum]; rw [ih (fun i hi => h i (by omega)), h n (by omega)]
theorem zsum_mul (c : Int) (f : Nat → Int) (n : Nat) : zsum (fun i => c * f i) n = c * zsum f n := by
  induction n with
  | zero => simp [zsum]
  | succ n ih => simp only [zsum, ih, Int.mul_add]
theorem zsum_add (f g : Nat → Int) (n : Nat) : zsum (fun i => f i + g i) n = zsum f n + zsum g n := by
  induction n with
  | zero => rfl
  | succ n ih => simp only [zsum]; omega
theorem zsum_zero (n : Nat) : zsum (fun _ => 0) n = 0 := by
  induction n with
  | zero => rfl
  | succ n ih => simp only [zsum, ih]; rfl
theorem zsum_pick (s n : Nat) (f : Nat → Int) (h : s < n) : zsum (fun i => (one (s == i) : Int) * f i) n = f s := by
  induction n with
  | zero => omega
  | succ n ih =>
    simp only [zsum]
    by_cases e : s = n
    · subst e
      have : zsum (fun i => (one (s == i) : Int) * f i) s = 0 := by
        rw [← zsum_zero s]
        exact zsum_congr fun i hi => by simp [one, show ¬ s = i by omega]
      rw [this]
      simp [one]
    · rw [ih (by omega)]
      simp [one, e]
theorem al_low {F : Nat → Nat → Bool} {n : Nat} (hs : Sym F n) (P : Nat → Bool) : al F n P = 1 - zsum (fun i => if P i then al F n (fun j => P j && decide (i < j) && F i j) else 0) n := by
  have h : ∀ k, k ≤ n → al F n P = al F n (fun j => P j && decide (k ≤ j)) - zsum (fun i => if P i then al F n (fun j => P j && decide (i < j) && F i j) else 0) k := by
    intro k
    induction k with
    | zero =>
      intro _
      simp only [zsum]
      rw [Int.sub_zero]
      exact al_cong fun i _ => by simp
    | succ k ih =>
      intro hk
      rw [ih (by omega)]
      simp only [zsum]
      cases e : P k with
      | false =>
        rw [if_neg (by simp)]
        have : al F n (fun j => P j && decide (k ≤ j)) = al F n (fun j => P j && decide (k + 1 ≤ j)) := al_cong fun i _ => by
          by_cases e2 : i = k
          · rw [e2, e]; simp
          · congr 1
            rw [decide_eq_decide]
            omega
        rw [this]
        omega
      | true =>
        rw [if_pos rfl]
        have h1 := al_del hs n (Nat.le_refl _) (fun j => P j && decide (k ≤ j)) k (by omega) (by simp [e])
        rw [h1]
        rw [al_cong (F := F) (k := n) (P := fun i => (P i && decide (k ≤ i)) && !decide (i = k)) (Q := fun i => P i && decide (k + 1 ≤ i)) (fun i _ => by
            rw [Bool.eq_iff_iff]
            simp only [Bool.and_eq_true, decide_eq_true_eq, Bool.not_eq_true', decide_eq_false_iff_not]
            constructor
            · rintro ⟨⟨h1, h2⟩, h3⟩; exact ⟨h1, by omega⟩
            · rintro ⟨h1, h2⟩; exact ⟨⟨h1, by omega⟩, by omega⟩),
          al_cong (F := F) (k := n) (P := fun i => (P i && decide (k ≤ i)) && F k i) (Q := fun j => P j && decide (k < j) && F k j) (fun i _ => by
            by_cases e2 : i = k
            · rw [e2, hs.irr k (by omega)]; simp
            · congr 2
              rw [decide_eq_decide]
              omega)]
        omega
  rw [h n (Nat.le_refl _), al_none n (fun j => P j && decide (n ≤ j)) (fun i hi => by simp; omega)]
def sg (s : Nat) : Int := if s % 2 = 0 then 1 else -1
theorem sg_succ (s : Nat) : sg (s + 1) = - sg s := by
  unfold sg
  rcases Nat.mod_two_eq_zero_or_one s with h | h
  · rw [if_neg (by omega), if_pos h]
  · rw [if_pos (by omega), if_neg (by omega)]
    rfl
def sgL (L : List Nat) : Int := L.foldr (fun x a => sg (size16 x) + a) 0
theorem sgL_app (L K : List Nat) : sgL (L ++ K) = sgL L + sgL K := by
  induction L with
  | nil => simp [sgL]
  | cons x L ih =>
    show sg (size16 x) + sgL (L ++ K) = sg (size16 x) + sgL L + sgL K
    rw [ih]
    omega
theorem sgL_flat (G : Nat → List Nat) (n : Nat) : sgL ((List.range n).flatMap G) = zsum (fun i => sgL (G i)) n := by
  induction n with
  | zero => rfl
  | succ n ih =>
    rw [List.range_succ, List.flatMap_append, sgL_app, ih]
    simp [zsum]
theorem cliq_sg {H : Nat → Nat} {n : Nat} (hn : n ≤ 14) (hs : Sym (fun i j => (H i).testBit j) n) (f : Nat) : ∀ g nx, nx < 65536 → (∀ j, nx.testBit j = true → n ≤ j + f ∧ j < n ∧ g.testBit j = false) →
    sgL (cliq H n f g nx) = sg (size16 g) * al (fun i j => (H i).testBit j) n (fun i => nx.testBit i) := by
  induction f with
  | zero =>
    intro g nx _ h
    rw [al_none n _ (fun i hi => by
      cases e : nx.testBit i with
      | false => rfl
      | true => have := h i e; omega)]
    show sg (size16 g) + 0 = _
    omega
  | succ f ih =>
    intro g nx hx h
    rw [al_low hs, cliq_succ]
    show sg (size16 g) + sgL (cliqTo H n f g nx n) = _
    unfold cliqTo
    rw [sgL_flat]
    have e : zsum (fun i => sgL (if nx.testBit i then cliq H n f (g ||| 2 ^ i) (aft nx i &&& H i) else [])) n = zsum (fun i => (- sg (size16 g)) * (if nx.testBit i = true then al (fun i j => (H i).testBit j) n (fun j => nx.testBit j && decide (i < j) && (H i).testBit j) else 0)) n := by
      refine zsum_congr fun i hi => ?_
      cases e : nx.testBit i with
      | false => simp [sgL]
      | true =>
        have hgi := (h i e).2.2
        simp only [if_true]
        rw [ih (g ||| 2 ^ i) (aft nx i &&& H i) (Nat.lt_of_le_of_lt Nat.and_le_left (Nat.lt_of_le_of_lt (aft_le _ _) hx)) (fun j hj => ?_)]
        · rw [size_or g i hgi (by omega), sg_succ]
          congr 1
          exact al_cong fun j _ => by rw [Nat.testBit_and, aft_bit _ _ _ hx (by omega)]
        · rw [Nat.testBit_and, aft_bit _ _ _ hx (by omega)] at hj
          simp only [Bool.and_eq_true, decide_eq_true_eq] at hj
          have h1 := h i e
          have h2 := h j hj.1.1
          refine ⟨by omega, h2.2.1, ?_⟩
          rw [Nat.testBit_or, pow_bit, h2.2.2, Bool.false_or, decide_eq_false_iff_not]
          omega
    rw [e, zsum_mul]
    generalize zsum _ n = z
    rw [Int.mul_sub, Int.mul_one, Int.neg_mul]
    omega
theorem cliq_all_sg {H : Nat → Nat} {n : Nat} (hn : n ≤ 14) (hs : Sym (fun i j => (H i).testBit j) n) : sgL (cliq H n n 0 (allH n)) = al (fun i j => (H i).testBit j) n (fun _ => true) := by
  rw [cliq_sg hn hs n 0 (allH n) (allH_lt (by omega)) (fun j hj => by
    rw [allH_bit] at hj
    have : j < n := by simpa using hj
    exact ⟨by omega, this, by simp⟩)]
  have e : sg (size16 0) = 1 := by decide
  rw [e, Int.one_mul]
  exact al_cong fun i hi => by rw [allH_bit]; simp [hi]
theorem zs_cnt (S : Nat) : ∀ L : List Nat, (∀ x, x ∈ L → size16 x < S) → zsum (fun i => ((cntS i L : Nat) : Int) * sg i) S = sgL L := by
  intro L
  induction L with
  | nil =>
    intro _
    show _ = 0
    rw [← zsum_zero S]
    exact zsum_congr fun i _ => by simp [cntS]
  | cons x L ih =>
    intro h
    have e : zsum (fun i => ((cntS i (x :: L) : Nat) : Int) * sg i) S = zsum (fun i => (one (size16 x == i) : Int) * sg i + ((cntS i L : Nat) : Int) * sg i) S := zsum_congr fun i _ => by
      rw [cntS_cons, Int.natCast_add, Int.add_mul]
    rw [e, zsum_add, ih (fun y hy => h y (by simp [hy])), zsum_pick _ _ _ (h x (by simp))]
    rfl
/-- the horses below n that have P, rising -/
def filt (P : Nat → Bool) (n : Nat) : List Nat := (List.range n).filter P
theorem filt_succ (P : Nat → Bool) (n : Nat) : filt P (n + 1) = filt P n ++ (if P n then [n] else []) := by
  unfold filt
  rw [List.range_succ, List.filter_append]
  congr 1
  by_cases e : P n <;> simp [e]
theorem filt_len (P : Nat → Bool) (n : Nat) : (filt P n).length ≤ n := by
  have := List.length_filter_le P (List.range n)
  simpa [filt] using this
theorem filt_get {P : Nat → Bool} {n a : Nat} (h : a < (filt P n).length) : (filt P n).getD a 0 < n ∧ P ((filt P n).getD a 0) = true := by
  have hm : (filt P n).getD a 0 ∈ filt P n := by
    rw [List.getD_eq_getElem?_getD, List.getElem?_eq_getElem h]
    exact List.getElem_mem h
  unfold filt at hm
  rw [List.mem_filter] at hm
  exact ⟨List.mem_range.1 hm.1, hm.2⟩
theorem filt_inj {P : Nat → Bool} {n a b : Nat} (ha : a < b) (hb : b < (filt P n).length) : (filt P n).getD a 0 < (filt P n).getD b 0 := by
  have hp : (filt P n).Pairwise (· < ·) := List.Pairwise.filter _ List.pairwise_lt_range
  have := List.pairwise_iff_getElem.1 hp a b (by omega) hb ha
  rw [List.getD_eq_getElem?_getD, List.getD_eq_getElem?_getD, List.getElem?_eq_getElem (show a < _ by omega), List.getElem?_eq_getElem hb]
  exact this
theorem al_map (F : Nat → Nat → Bool) (P : Nat → Bool) : ∀ (n : Nat) (Q : Nat → Bool), al (fun a b => F ((filt P n).getD a 0) ((filt P n).getD b 0)) (filt P n).length (fun a => Q ((filt P n).getD a 0)) = al F n (fun i => P i && Q i) := by
  intro n
  induction n with
  | zero => intro Q; rfl
  | succ n ih =>
    intro Q
    rw [filt_succ]
    cases e : P n with
    | false =>
      simp only [Bool.false_eq_true, if_false, List.append_nil]
      rw [ih Q]
      simp only [al]
      rw [e, if_neg (by simp)]
    | true =>
      have hl : ∀ a, a < (filt P n).length → (filt P n ++ [n]).getD a 0 = (filt P n).getD a 0 := fun a ha => by
        rw [List.getD_eq_getElem?_getD, List.getElem?_append_left ha, List.getD_eq_getElem?_getD]
      have hn : (filt P n ++ [n]).getD (filt P n).length 0 = n := by simp [List.getD]
      simp only [if_true, List.length_append, List.length_cons, List.length_nil, Nat.zero_add, al]
      rw [hn, e]
      have c1 : al (fun a b => F ((filt P n ++ [n]).getD a 0) ((filt P n ++ [n]).getD b 0)) (filt P n).length (fun a => Q ((filt P n ++ [n]).getD a 0)) = al F n (fun i => P i && Q i) := by
        rw [← ih Q]
        exact al_congr _ _ _ (fun i j hi hj => by rw [hl i hi, hl j hj]) (fun i hi => by rw [hl i hi])
      have c2 : al (fun a b => F ((filt P n ++ [n]).getD a 0) ((filt P n ++ [n]).getD b 0)) (filt P n).length (fun a => Q ((filt P n ++ [n]).getD a 0) && F n ((filt P n ++ [n]).getD a 0)) = al F n (fun i => (P i && Q i) && F n i) := by
        have h2 := ih (fun i => Q i && F n i)
        rw [show al F n (fun i => (P i && Q i) && F n i) = al F n (fun i => P i && (Q i && F n i)) from al_cong fun i _ => Bool.and_assoc _ _ _, ← h2]
        exact al_congr _ _ _ (fun i j hi hj => by rw [hl i hi, hl j hj]) (fun i hi => by rw [hl i hi])
      rw [c1, c2]
      rfl
/-- the sum over one horse taken out -/
theorem al_out {F : Nat → Nat → Bool} {n v : Nat} (hs : Sym F n) (hv : v < n) : al F n (fun _ => true) = al F n (fun i => !decide (i = v)) - al F n (fun i => F v i) := by
  have h := al_del hs n (Nat.le_refl _) (fun _ => true) v hv rfl
  simpa using h
end Go.Proofs.YtlnlddnjalfamaaGreatDoor
