/-
  Which yards are connected: the fire and the reference's rounds agree.
-/
import Derived.Test.YtlnpipkhofhlnaaX
namespace Go.Proofs.Ytlnpipkhofhlnaa
open Go.RowKit Go.Deep

def Near (A B : Nat → Int) (m : Nat) : Nat → Int → Prop
  | 0, v => v = 0
  | r + 1, v => Near A B m r v ∨ ∃ i, i < m ∧ ((A i = v ∧ Near A B m r (B i)) ∨ (B i = v ∧ Near A B m r (A i)))
def Reach (A B : Nat → Int) (m : Nat) (v : Int) : Prop := ∀ C : Int → Bool, C 0 = false → (∀ i, i < m → C (A i) = C (B i)) → C v = false
theorem cnt_some {p : Nat → Bool} {n : Nat} (h : 1 ≤ cnt p n) : ∃ i, i < n ∧ p i = true := by
  induction n with
  | zero => simp [cnt] at h
  | succ n ih =>
    simp only [cnt] at h
    cases e : p n with
    | true => exact ⟨n, by omega, e⟩
    | false =>
      rw [e] at h
      obtain ⟨i, h1, h2⟩ := ih (by simpa using h)
      exact ⟨i, by omega, h2⟩
theorem cnt_pos {p : Nat → Bool} {n i : Nat} (hi : i < n) (hp : p i = true) : 1 ≤ cnt p n := by
  rcases Nat.eq_zero_or_pos (cnt p n) with h | h
  · rw [cnt_zero h i hi] at hp; cases hp
  · exact h
theorem sumN_less {f g : Nat → Nat} {n y : Nat} (h : ∀ i, i < n → f i ≤ g i) (hy : y < n) (hl : f y < g y) : sumN f n < sumN g n := by
  induction n with
  | zero => omega
  | succ n ih =>
    simp only [sumN]
    have h1 := h n (by omega)
    by_cases e : y = n
    · subst e
      have : sumN f y ≤ sumN g y := by
        clear ih hl hy h1
        have h2 : ∀ i, i < y → f i ≤ g i := fun i hi => h i (by omega)
        clear h
        induction y with
        | zero => exact Nat.le_refl _
        | succ y ih => simp only [sumN]; have := ih (fun i hi => h2 i (by omega)); have := h2 y (by omega); omega
      omega
    · have := ih (fun i hi => h i (by omega)) (by omega); omega
theorem cold_start {n : Nat} (hn : 1 ≤ n) : cold (fun i => decide (i = 0)) n + 1 = n := by
  have h1 := cold_upd (b := fun _ => false) (n := n) (v := 0) (by omega) rfl
  have h2 : cold (fun _ => false) n = n := by
    unfold cold
    clear h1 hn
    induction n with
    | zero => rfl
    | succ n ih => simp only [cnt]; rw [ih]; simp
  have h3 : cold (upd (fun _ => false) 0) n = cold (fun i => decide (i = 0)) n := cnt_congr (fun i _ => by by_cases e : i = 0 <;> simp [upd, e])
  omega
theorem burnL_end {n : Nat} {J : Nat → Nat → Nat} {h : Nat → Int} (g : Nat) : ∀ b l, b 0 = true → cold b n ≤ g → ∃ b' : Nat → Bool, b' 0 = true ∧ catchV n J h b' = 0 ∧ cold b' n + (burnL n J h g b l).length = cold b n + l.length := by
  induction g with
  | zero =>
    intro b l hb hc
    refine ⟨b, hb, ?_, rfl⟩
    rcases Nat.eq_zero_or_pos (catchV n J h b) with e | e
    · exact e
    · have := cold_upd (catch_hot (by omega : catchV n J h b ≠ 0)).1 (catch_cold (by omega)); omega
  | succ g ih =>
    intro b l hb hc
    simp only [burnL]
    by_cases e : catchV n J h b = 0
    · rw [if_pos e]; exact ⟨b, hb, e, rfl⟩
    · rw [if_neg e]
      have h1 := cold_upd (catch_hot e).1 (catch_cold e)
      obtain ⟨b', h2, h3, h4⟩ := ih (upd b (catchV n J h b)) (l ++ [catchV n J h b]) (by simp [upd, hb]) (by omega)
      refine ⟨b', h2, h3, ?_⟩
      rw [h4]; simp; omega
theorem catch_none {n : Nat} {J : Nat → Nat → Nat} {h : Nat → Int} {b : Nat → Bool} (hc : catchV n J h b = 0) (hb : b 0 = true) : ∀ v, v < n → hot n J h b v = false := by
  intro v hv
  cases e : hot n J h b v with
  | false => rfl
  | true =>
    have h0 : hot n J h b 0 = false := by simp [hot, hb]
    unfold catchV at hc
    by_cases e2 : least (hot n J h b) n < n
    · rw [if_pos e2] at hc
      have := (least_some e2).1
      rw [hc, h0] at this; cases this
    · have := least_none.1 (Nat.le_antisymm (least_le (hot n J h b) n) (by omega)) v hv
      rw [e] at this; cases this
theorem con_false {n : Nat} {A B : Nat → Int} {m : Nat} (hn : 1 ≤ n) (hE : allN (fun i => edgeB n (A i) (B i)) m = true) (h : conB n (degN A B m) (btwN A B m) = false) : ∃ v : Nat, v < n ∧ ¬ Reach A B m v := by
  obtain ⟨j0, js⟩ := edges_sum hE
  have hc0 := cold_start hn
  obtain ⟨b, h1, h2, h3⟩ := burnL_end (n := n) (J := btwN A B m) (h := fun i => (degN A B m (i + 1) : Int) - 1) n (fun i => decide (i = 0)) [] rfl (by omega)
  have hlen : (burnAll n (btwN A B m) (fun i => (degN A B m (i + 1) : Int) - 1)).length ≠ n - 1 := by simpa [conB] using h
  unfold burnAll at hlen
  simp only [List.length_nil] at h3
  have hcold : 1 ≤ cold b n := by omega
  obtain ⟨v, hv, hbv⟩ := cnt_some hcold
  have hcn := catch_none h2 h1
  refine ⟨v, hv, fun hr => ?_⟩
  have key : ∀ x y : Nat, x < n → y < n → 1 ≤ btwN A B m x y → b x = false → b y = true → False := fun x y hx hy hJ hbx hby => by
    have h4 := hcn x hx
    have h5 : unb n (btwN A B m) b x < sumN (btwN A B m x) n := sumN_less (fun i _ => by show (if _ then _ else _) ≤ _; split <;> omega) hy (by show (if b y = true then 0 else _) < _; rw [if_pos hby]; omega)
    have hx0 : x ≠ 0 := fun e => by rw [e, h1] at hbx; cases hbx
    rw [js x] at h5
    simp only [hot, hbx, Bool.not_false, Bool.true_and, decide_eq_false_iff_not] at h4
    rw [show x - 1 + 1 = x by omega] at h4
    omega
  have := hr (fun z => decide (0 ≤ z) && (decide (z < n) && !b z.toNat)) (by simp [h1]) (fun i hi => by
    obtain ⟨x, y, ha, hb, hx, hy, hxy⟩ := edgeB_true (allN_true.1 hE i hi)
    have e1 : 1 ≤ btwN A B m x y := cnt_pos hi (by simp [ha, hb])
    have e2 : 1 ≤ btwN A B m y x := cnt_pos hi (by simp [ha, hb])
    have k1 := key x y hx hy e1
    have k2 := key y x hy hx e2
    rw [ha, hb]
    cases ex : b x <;> cases ey : b y
    · simp [ex, ey]; omega
    · exact (k1 ex ey).elim
    · exact (k2 ey ex).elim
    · simp [ex, ey])
  simp only [Bool.not_eq_true'] at hbv
  simp [hbv, hv] at this
theorem con_near {n : Nat} {A B : Nat → Int} {m : Nat} (hn : 1 ≤ n) (hE : allN (fun i => edgeB n (A i) (B i)) m = true) (h : conB n (degN A B m) (btwN A B m) = true) : ∀ v, v < n → Near A B m n v := by
  obtain ⟨j0, js⟩ := edges_sum hE
  have hc0 := cold_start hn
  have hstart : BInv n (btwN A B m) (fun i => decide (i = 0)) [] (fun _ => 0) := ⟨rfl, rfl, by simp only [List.length_nil]; omega, fun _ _ _ => Nat.le_refl _, fun v _ hb hv => absurd (by simpa using hb) hv⟩
  obtain ⟨b, p, inv⟩ := burnL_inv (D := degN A B m) (fun i _ => js i) n _ _ _ hstart
  have hlen : (burnAll n (btwN A B m) (fun i => (degN A B m (i + 1) : Int) - 1)).length = n - 1 := by simpa [conB] using h
  unfold burnAll at hlen
  have hcold : cold b n = 0 := by have := inv.left; omega
  have hb : ∀ v, v < n → b v = true := fun v hv => by have := cnt_zero hcold v hv; simpa using this
  have hnear : ∀ r v, v < n → p v ≤ r → Near A B m r (v : Nat) := by
    intro r
    induction r with
    | zero =>
      intro v hv hr
      by_cases e : v = 0
      · subst e; rfl
      · obtain ⟨u, _, _, h3, _⟩ := inv.rank v hv (hb v hv) e; omega
    | succ r ih =>
      intro v hv hr
      by_cases e : v = 0
      · subst e; exact Or.inl (ih 0 hv (by rw [inv.p0]; omega))
      · obtain ⟨u, hu, _, h3, h4⟩ := inv.rank v hv (hb v hv) e
        obtain ⟨i, hi, hp⟩ := cnt_some h4
        have hN := ih u hu (by omega)
        refine Or.inr ⟨i, hi, ?_⟩
        simp only [Bool.or_eq_true, Bool.and_eq_true, beq_iff_eq] at hp
        rcases hp with ⟨h5, h6⟩ | ⟨h5, h6⟩
        · exact Or.inl ⟨h5, by rw [h6]; exact hN⟩
        · exact Or.inr ⟨h6, by rw [h5]; exact hN⟩
  intro v hv
  have := inv.low v hv (hb v hv)
  exact hnear n v hv (by omega)
theorem con_seen {n : Nat} {A B : Nat → Int} {m : Nat} {s : Nat → Bool} (hn : 1 ≤ n) (hE : allN (fun i => edgeB n (A i) (B i)) m = true) (h1 : ∀ v, v < n → s v = true → Reach A B m (v : Nat)) (h2 : ∀ v, v < n → Near A B m n (v : Nat) → s v = true) : allN s n = conB n (degN A B m) (btwN A B m) := by
  cases e : conB n (degN A B m) (btwN A B m) with
  | true => exact allN_true.2 (fun v hv => h2 v hv (con_near hn hE e v hv))
  | false =>
    obtain ⟨v, hv, hr⟩ := con_false hn hE e
    cases es : s v with
    | true => exact (hr (h1 v hv es)).elim
    | false => exact allN_false hv es
end Go.Proofs.Ytlnpipkhofhlnaa
