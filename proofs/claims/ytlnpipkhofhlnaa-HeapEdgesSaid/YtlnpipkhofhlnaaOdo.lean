/-
  Stabilization, in plain numbers: the least counts of topplings that leave heaps stable. No program is named here.
-/
import Derived.Test.YtlnpipkhofhlnaaRep
namespace Go.Proofs.Ytlnpipkhofhlnaa

def sumZ (f : Nat → Int) : Nat → Int
  | 0 => 0
  | k + 1 => sumZ f k + f k
theorem sumZ_congr {f g : Nat → Int} {n : Nat} (h : ∀ i, i < n → f i = g i) : sumZ f n = sumZ g n := by
  induction n with
  | zero => rfl
  | succ n ih => simp only [sumZ]; rw [ih (fun i hi => h i (by omega)), h n (by omega)]
theorem sumZ_le {f g : Nat → Int} {n : Nat} (h : ∀ i, i < n → f i ≤ g i) : sumZ f n ≤ sumZ g n := by
  induction n with
  | zero => simp [sumZ]
  | succ n ih => simp only [sumZ]; have := ih (fun i hi => h i (by omega)); have := h n (by omega); omega
theorem sumZ_add (f g : Nat → Int) (n : Nat) : sumZ (fun i => f i + g i) n = sumZ f n + sumZ g n := by
  induction n with
  | zero => simp [sumZ]
  | succ n ih => simp only [sumZ]; omega
theorem sumZ_one {f : Nat → Int} {n v : Nat} (hv : v < n) (h : ∀ i, i < n → i ≠ v → f i = 0) : sumZ f n = f v := by
  induction n with
  | zero => omega
  | succ n ih =>
    simp only [sumZ]
    by_cases e : v = n
    · subst e
      have : sumZ f v = 0 := by
        have h0 : ∀ k, k ≤ v → sumZ f k = 0 := by
          intro k
          induction k with
          | zero => intro _; rfl
          | succ k ih2 => intro hk; simp only [sumZ]; rw [ih2 (by omega), h k (by omega) (by omega)]; rfl
        exact h0 v (Nat.le_refl _)
      omega
    · rw [ih (by omega) (fun i hi => h i (by omega)), h n (by omega) (by omega)]; omega
theorem sumZ_mul (f : Nat → Int) (c : Int) (n : Nat) : sumZ (fun i => c * f i) n = c * sumZ f n := by
  induction n with
  | zero => simp [sumZ]
  | succ n ih => simp only [sumZ]; rw [ih, Int.mul_add]
theorem sumZ_nonneg {f : Nat → Int} {n : Nat} (h : ∀ i, i < n → 0 ≤ f i) : 0 ≤ sumZ f n := by
  induction n with
  | zero => simp [sumZ]
  | succ n ih => simp only [sumZ]; have := ih (fun i hi => h i (by omega)); have := h n (by omega); omega
theorem sumZ_bound {f : Nat → Int} {c : Int} {n : Nat} (h : ∀ i, i < n → f i ≤ c) : sumZ f n ≤ c * n := by
  induction n with
  | zero => simp [sumZ]
  | succ n ih =>
    simp only [sumZ]
    have h1 := ih (fun i hi => h i (by omega))
    have h2 := h n (by omega)
    have : c * ((n + 1 : Nat) : Int) = c * n + c := by rw [Int.natCast_add, Int.mul_add]; simp
    omega

/-- the bars at v after each vertex w has toppled x w times -/
def fin (n : Nat) (D : Nat → Nat) (J : Nat → Nat → Nat) (h : Nat → Int) (x : Nat → Int) (v : Nat) : Int := h v + sumZ (fun w => x w * (J w v : Int)) n - x v * (D v : Int)
/-- these counts leave stable heaps -/
def Stab (n : Nat) (D : Nat → Nat) (J : Nat → Nat → Nat) (h : Nat → Int) (y : Nat → Int) : Prop := y 0 = 0 ∧ (∀ v, v < n → 0 ≤ y v) ∧ ∀ v, 1 ≤ v → v < n → fin n D J h y v < D v
/-- the state of a run of topplings that are all allowed -/
structure Run (n : Nat) (D : Nat → Nat) (J : Nat → Nat → Nat) (h : Nat → Int) (x f : Nat → Int) : Prop where
  eq : ∀ v, v < n → f v = fin n D J h x v
  pos : ∀ v, v < n → 0 ≤ f v
  x0 : x 0 = 0
  xpos : ∀ v, v < n → 0 ≤ x v
  le : ∀ y, Stab n D J h y → ∀ v, v < n → x v ≤ y v
/-- x are the least counts that leave stable heaps -/
def Odo (n : Nat) (D : Nat → Nat) (J : Nat → Nat → Nat) (h : Nat → Int) (x : Nat → Int) : Prop := Stab n D J h x ∧ ∀ y, Stab n D J h y → ∀ v, v < n → x v ≤ y v
theorem Odo.unique {n : Nat} {D : Nat → Nat} {J : Nat → Nat → Nat} {h x y : Nat → Int} (a : Odo n D J h x) (b : Odo n D J h y) : ∀ v, v < n → x v = y v :=
  fun v hv => by have := a.2 y b.1 v hv; have := b.2 x a.1 v hv; omega
theorem fin_congr {n : Nat} {D : Nat → Nat} {J : Nat → Nat → Nat} {h x y : Nat → Int} (e : ∀ v, v < n → x v = y v) {v : Nat} (hv : v < n) : fin n D J h x v = fin n D J h y v := by
  unfold fin
  rw [sumZ_congr (f := fun w => x w * (J w v : Int)) (g := fun w => y w * (J w v : Int)) (fun w hw => by show x w * _ = y w * _; rw [e w hw]), e v hv]
theorem Run.start {n : Nat} {D : Nat → Nat} {J : Nat → Nat → Nat} {h : Nat → Int} (hp : ∀ v, v < n → 0 ≤ h v) : Run n D J h (fun _ => 0) h :=
  ⟨fun v _ => by
    unfold fin
    have : sumZ (fun w => (fun _ => (0 : Int)) w * (J w v : Int)) n = 0 := by
      have h1 := sumZ_congr (f := fun w => (fun _ => (0 : Int)) w * (J w v : Int)) (g := fun w => (0 : Int) * (J w v : Int)) (n := n) (fun _ _ => rfl)
      rw [h1, sumZ_mul]; simp
    rw [this]; simp, hp, rfl, fun _ _ => by simp, fun y hy v hv => by have := hy.2.1 v hv; simpa using this⟩

def addAt (x : Nat → Int) (v : Nat) (t : Int) : Nat → Int := fun u => x u + (if u = v then t else 0)
theorem fin_add (n : Nat) (D : Nat → Nat) (J : Nat → Nat → Nat) (h x : Nat → Int) {v : Nat} (hv : v < n) (t : Int) (u : Nat) :
    fin n D J h (addAt x v t) u = fin n D J h x u + t * (J v u : Int) - (if u = v then t * (D v : Int) else 0) := by
  unfold fin
  have e1 : sumZ (fun w => addAt x v t w * (J w u : Int)) n = sumZ (fun w => x w * (J w u : Int)) n + t * (J v u : Int) := by
    rw [sumZ_congr (g := fun w => x w * (J w u : Int) + (if w = v then t else 0) * (J w u : Int)) (fun w _ => by simp only [addAt]; rw [Int.add_mul]), sumZ_add]
    rw [sumZ_one (f := fun w => (if w = v then t else 0) * (J w u : Int)) hv (fun i _ hne => by show (if i = v then t else 0) * _ = 0; rw [if_neg hne]; simp)]
    simp
  rw [e1]
  by_cases e : u = v
  · subst e
    simp only [addAt, if_true]
    rw [Int.add_mul]; omega
  · simp only [addAt, if_neg e, Int.add_zero]; omega

/-- one vertex topples t times, which its bars allow -/
theorem Run.step {n : Nat} {D : Nat → Nat} {J : Nat → Nat → Nat} {h x f : Nat → Int} (r : Run n D J h x f) {v : Nat} (h1 : 1 ≤ v) (hv : v < n) (hJ : J v v = 0) {t : Int} (ht : 0 ≤ t) (htD : t * (D v : Int) ≤ f v) {f' : Nat → Int}
    (hf' : ∀ u, u < n → f' u = (if u = v then f v - t * D v else f u) + t * J v u) : Run n D J h (addAt x v t) f' := by
  refine ⟨fun u hu => ?_, fun u hu => ?_, ?_, fun u hu => ?_, fun y hy u hu => ?_⟩
  · rw [hf' u hu, fin_add n D J h x hv]
    by_cases e : u = v
    · subst e; rw [if_pos rfl, if_pos rfl, r.eq u hu]; omega
    · rw [if_neg e, if_neg e, r.eq u hu]; omega
  · rw [hf' u hu]
    have : 0 ≤ t * (J v u : Int) := Int.mul_nonneg ht (by omega)
    by_cases e : u = v
    · rw [if_pos e]; omega
    · rw [if_neg e]; have := r.pos u hu; omega
  · show x 0 + (if 0 = v then t else 0) = 0
    rw [if_neg (by omega), r.x0]; rfl
  · show 0 ≤ x u + (if u = v then t else 0)
    have := r.xpos u hu
    split <;> omega
  · show x u + (if u = v then t else 0) ≤ y u
    by_cases e : u = v
    · subst e
      rw [if_pos rfl]
      rcases Int.lt_or_le (y u) (x u + t) with hlt | hge
      · exfalso
        have hs := hy.2.2 u h1 hv
        have he := r.eq u hv
        unfold fin at hs he
        have hle : sumZ (fun w => x w * (J w u : Int)) n ≤ sumZ (fun w => y w * (J w u : Int)) n :=
          sumZ_le (fun i hi => Int.mul_le_mul_of_nonneg_right (r.le y hy i hi) (by omega))
        have hd : (0 : Int) ≤ D u := by omega
        have h2 : y u * (D u : Int) ≤ (x u + t - 1) * (D u : Int) := Int.mul_le_mul_of_nonneg_right (by omega) hd
        have h3 : (x u + t - 1) * (D u : Int) = x u * D u + t * D u - D u := by rw [Int.sub_mul, Int.add_mul]; omega
        omega
      · exact hge
    · rw [if_neg e]; have := r.le y hy u hu; omega
theorem Run.odo {n : Nat} {D : Nat → Nat} {J : Nat → Nat → Nat} {h x f : Nat → Int} (r : Run n D J h x f) (hs : ∀ v, 1 ≤ v → v < n → f v < D v) : Odo n D J h x :=
  ⟨⟨r.x0, r.xpos, fun v h1 hv => by rw [← r.eq v hv]; exact hs v h1 hv⟩, r.le⟩
/-- the bars of a run are bounded by those of any stable end -/
theorem Run.bound {n : Nat} {D : Nat → Nat} {J : Nat → Nat → Nat} {h x f y : Nat → Int} (r : Run n D J h x f) (hy : Stab n D J h y) {H Y : Int} (hh : ∀ v, v < n → h v ≤ H) (hY : ∀ v, v < n → y v ≤ Y) (hY0 : 0 ≤ Y) {u : Nat} (hu : u < n) (hJ : sumZ (fun w => (J w u : Int)) n ≤ 20) : f u ≤ H + Y * 20 := by
  rw [r.eq u hu]
  unfold fin
  have h1 : sumZ (fun w => x w * (J w u : Int)) n ≤ sumZ (fun w => Y * (J w u : Int)) n := sumZ_le (fun i hi => by
    show x i * (J i u : Int) ≤ Y * (J i u : Int)
    have a := r.le y hy i hi
    have b := hY i hi
    exact Int.mul_le_mul_of_nonneg_right (by omega) (by omega))
  rw [sumZ_mul] at h1
  have h2 : Y * sumZ (fun w => (J w u : Int)) n ≤ Y * 20 := Int.mul_le_mul_of_nonneg_left hJ hY0
  have h3 : 0 ≤ x u * (D u : Int) := Int.mul_nonneg (r.xpos u hu) (by omega)
  have h4 := hh u hu
  omega

/-- what stands in a yard -/
structure YardOk (n : Nat) (D : Nat → Nat) (J : Nat → Nat → Nat) : Prop where
  n2 : 2 ≤ n
  n8 : n ≤ 8
  D20 : ∀ i, i < n → D i ≤ 20
  D1 : ∀ i, 1 ≤ i → i < n → 1 ≤ D i
  J20 : ∀ i j, i < n → j < n → J i j ≤ 20
  J0 : ∀ i, i < n → J i i = 0
  sym : ∀ i j, J i j = J j i
  sum : ∀ i, i < n → sumN (J i) n = D i
theorem YardOk.D40 {n : Nat} {D : Nat → Nat} {J : Nat → Nat → Nat} (ok : YardOk n D J) : ∀ i, i < n → D i ≤ 40 := fun i hi => by have := ok.D20 i hi; omega
theorem YardOk.J40 {n : Nat} {D : Nat → Nat} {J : Nat → Nat → Nat} (ok : YardOk n D J) : ∀ i j, i < n → j < n → J i j ≤ 40 := fun i j hi hj => by have := ok.J20 i j hi hj; omega
theorem sumZ_nat (f : Nat → Nat) (n : Nat) : sumZ (fun i => (f i : Int)) n = (sumN f n : Nat) := by
  induction n with
  | zero => rfl
  | succ n ih => simp only [sumZ, sumN]; rw [ih]; omega
theorem YardOk.col {n : Nat} {D : Nat → Nat} {J : Nat → Nat → Nat} (ok : YardOk n D J) {u : Nat} (hu : u < n) : sumZ (fun w => (J w u : Int)) n = (D u : Int) := by
  rw [sumZ_congr (g := fun w => (J u w : Int)) (fun w _ => by rw [ok.sym w u]), sumZ_nat, ok.sum u hu]

/-! ### A yard in which fire comes everywhere has an end of topplings -/

/-- powers of 25, downwards -/
def gap (j : Nat) : Int := 25 ^ (8 - j)
def height : Nat → Int
  | 0 => 0
  | j + 1 => height j + gap (j + 1)
theorem height_vals : height 0 = 0 ∧ height 1 = 6103515625 ∧ height 2 = 6347656250 ∧ height 3 = 6357421875 ∧ height 4 = 6357812500 ∧ height 5 = 6357828125 ∧ height 6 = 6357828750 ∧ height 7 = 6357828775 := by decide
/-- the heights up to 7: above a lower one by more than 20 times what is left above -/
theorem height_gap {a b c : Nat} (hab : a < b) (hb : b ≤ 7) (hc : c ≤ 7) : 0 ≤ height c ∧ height c ≤ 6357828775 ∧ height a + 20 * (6357828775 - height b) + 1 ≤ height b ∧ (height c ≤ height b ∨ height c - height b ≤ 6357828775 - height b) := by
  obtain ⟨h0, h1, h2, h3, h4, h5, h6, h7⟩ := height_vals
  have hb' : b = 1 ∨ b = 2 ∨ b = 3 ∨ b = 4 ∨ b = 5 ∨ b = 6 ∨ b = 7 := by omega
  have ha' : a = 0 ∨ a = 1 ∨ a = 2 ∨ a = 3 ∨ a = 4 ∨ a = 5 ∨ a = 6 := by omega
  have hc' : c = 0 ∨ c = 1 ∨ c = 2 ∨ c = 3 ∨ c = 4 ∨ c = 5 ∨ c = 6 ∨ c = 7 := by omega
  have hc2 : 0 ≤ height c ∧ height c ≤ 6357828775 := by
    rcases hc' with rfl | rfl | rfl | rfl | rfl | rfl | rfl | rfl <;> omega
  refine ⟨hc2.1, hc2.2, ?_, Or.inr (by omega)⟩
  rcases hb' with rfl | rfl | rfl | rfl | rfl | rfl | rfl <;> rcases ha' with rfl | rfl | rfl | rfl | rfl | rfl | rfl <;> omega
/-- every vertex has a neighbour of a lower rank -/
def Ranked (n : Nat) (J : Nat → Nat → Nat) (p : Nat → Nat) : Prop := p 0 = 0 ∧ ∀ v, 1 ≤ v → v < n → p v ≤ 7 ∧ ∃ u, u < n ∧ p u < p v ∧ 1 ≤ J v u
theorem Ranked.stab {n : Nat} {D : Nat → Nat} {J : Nat → Nat → Nat} {p : Nat → Nat} (hp : Ranked n J p) (ok : YardOk n D J) {h : Nat → Int} {K : Int} (hK : 0 ≤ K) (hh : ∀ v, v < n → h v ≤ K) :
    ∃ y : Nat → Int, Stab n D J h y ∧ ∀ v, v < n → y v ≤ K * 6357828775 := by
  have h7 : ∀ v, v < n → p v ≤ 7 := fun v hv => by
    by_cases e : v = 0
    · subst e; rw [hp.1]; omega
    · exact (hp.2 v (by omega) hv).1
  have hz : ∀ v, v < n → 0 ≤ height (p v) ∧ height (p v) ≤ 6357828775 := fun v hv => by
    have := height_gap (a := 0) (b := 1) (c := p v) (by omega) (by omega) (h7 v hv); exact ⟨this.1, this.2.1⟩
  refine ⟨fun v => K * height (p v), ⟨by show K * height (p 0) = 0; rw [hp.1]; simp [height], fun v hv => Int.mul_nonneg hK (hz v hv).1, fun v h1 hv => ?_⟩, fun v hv => Int.mul_le_mul_of_nonneg_left (hz v hv).2 hK⟩
  obtain ⟨hpv, u, hu, hpu, hJ⟩ := hp.2 v h1 hv
  unfold fin
  have hcol := ok.col hv
  have e1 : sumZ (fun w => K * height (p w) * (J w v : Int)) n = K * sumZ (fun w => height (p w) * (J w v : Int)) n := by
    rw [← sumZ_mul]; exact sumZ_congr (fun w _ => Int.mul_assoc _ _ _)
  have hg := height_gap (a := p u) (b := p v) (c := 0) hpu hpv (by omega)
  have hb : sumZ (fun w => height (p w) * (J w v : Int)) n ≤ height (p v) * (D v : Int) - 1 := by
    have hle : sumZ (fun w => height (p w) * (J w v : Int)) n ≤ sumZ (fun w => 6357828775 * (J w v : Int) + (if w = u then (height (p u) - 6357828775) else 0)) n := sumZ_le (fun w hw => by
      show height (p w) * (J w v : Int) ≤ 6357828775 * (J w v : Int) + (if w = u then (height (p u) - 6357828775) else 0)
      have hzw := hz w hw
      by_cases e : w = u
      · subst e
        rw [if_pos rfl]
        have hj1 : (1 : Int) ≤ (J w v : Int) := by rw [ok.sym w v]; omega
        have : (6357828775 - height (p w)) * 1 ≤ (6357828775 - height (p w)) * (J w v : Int) := Int.mul_le_mul_of_nonneg_left hj1 (by omega)
        rw [Int.sub_mul 6357828775 (height (p w)) (J w v : Int)] at this
        omega
      · rw [if_neg e]
        have : height (p w) * (J w v : Int) ≤ 6357828775 * (J w v : Int) := Int.mul_le_mul_of_nonneg_right hzw.2 (by omega)
        omega)
    rw [sumZ_add, sumZ_mul, hcol, sumZ_one (f := fun w => if w = u then (height (p u) - 6357828775) else 0) hu (fun w _ hne => if_neg hne)] at hle
    simp only [if_true] at hle
    have hD := ok.D20 v hv
    have hmul : (6357828775 - height (p v)) * (D v : Int) ≤ (6357828775 - height (p v)) * 20 := Int.mul_le_mul_of_nonneg_left (by omega) (by have := hz v hv; omega)
    rw [Int.sub_mul] at hmul
    have := hg.2.2.1
    have := hz v hv
    omega
  have hk := Int.mul_le_mul_of_nonneg_left hb hK
  have e2 : K * (height (p v) * (D v : Int) - 1) = K * height (p v) * (D v : Int) - K := by rw [Int.mul_sub, Int.mul_assoc]; omega
  have hd1 := ok.D1 v h1 hv
  have hhv := hh v hv
  show h v + sumZ (fun w => K * height (p w) * (J w v : Int)) n - K * height (p v) * (D v : Int) < D v
  rw [e1]
  omega
end Go.Proofs.Ytlnpipkhofhlnaa
