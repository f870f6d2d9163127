/-
  Which yards are connected: the fire and the reference's rounds agree.
  And: The reference's IsYard.
-/
import Derived.Test.YtlnpipkhofhlnaaW
namespace Go.Proofs.Ytlnpipkhofhlnaa
open Go.RowKit Go.Deep

def Near (A B : Nat → Int) (m : Nat) : Nat → Int → Prop
  | 0, v => v = 0
  | r + 1, v => Near A B m r v ∨ ∃ i, i < m ∧ ((A i = v ∧ Near A B m r (B i)) ∨ (B i = v ∧ Near A B m r (A i)))
def Reach (A B : Nat → Int) (m : Nat) (v : Int) : Prop := ∀ C : Int → Bool, C 0 = false → (∀ i, i < m → C (A i) = C (B i)) → C v = false
theorem cnt_some {p : Nat → Bool} {n : Nat} (h : 1 ≤ cnt p n) : ∃ i, i < n ∧ p i = true := by
  induction n with
  | zero => simp [cnt] at h
  | succ n ih =>
    simp only [cnt] at h
    cases e : p n with
    | true => exact ⟨n, by omega, e⟩
    | false =>
      rw [e] at h
      obtain ⟨i, h1, h2⟩ := ih (by simpa using h)
      exact ⟨i, by omega, h2⟩
theorem cnt_pos {p : Nat → Bool} {n i : Nat} (hi : i < n) (hp : p i = true) : 1 ≤ cnt p n := by
  rcases Nat.eq_zero_or_pos (cnt p n) with h | h
  · rw [cnt_zero h i hi] at hp; cases hp
  · exact h
theorem sumN_less {f g : Nat → Nat} {n y : Nat} (h : ∀ i, i < n → f i ≤ g i) (hy : y < n) (hl : f y < g y) : sumN f n < sumN g n := by
  induction n with
  | zero => omega
  | succ n ih =>
    simp only [sumN]
    have h1 := h n (by omega)
    by_cases e : y = n
    · subst e
      have : sumN f y ≤ sumN g y := by
        clear ih hl hy h1
        have h2 : ∀ i, i < y → f i ≤ g i := fun i hi => h i (by omega)
        clear h
        induction y with
        | zero => exact Nat.le_refl _
        | succ y ih => simp only [sumN]; have := ih (fun i hi => h2 i (by omega)); have := h2 y (by omega); omega
      omega
    · have := ih (fun i hi => h i (by omega)) (by omega); omega
theorem cold_start {n : Nat} (hn : 1 ≤ n) : cold (fun i => decide (i = 0)) n + 1 = n := by
  have h1 := cold_upd (b := fun _ => false) (n := n) (v := 0) (by omega) rfl
  have h2 : cold (fun _ => false) n = n := by
    unfold cold
    clear h1 hn
    induction n with
    | zero => rfl
    | succ n ih => simp only [cnt]; rw [ih]; simp
  have h3 : cold (upd (fun _ => false) 0) n = cold (fun i => decide (i = 0)) n := cnt_congr (fun i _ => by by_cases e : i = 0 <;> simp [upd, e])
  omega
theorem burnL_end {n : Nat} {J : Nat → Nat → Nat} {h : Nat → Int} (g : Nat) : ∀ b l, b 0 = true → cold b n ≤ g → ∃ b' : Nat → Bool, b' 0 = true ∧ catchV n J h b' = 0 ∧ cold b' n + (burnL n J h g b l).length = cold b n + l.length := by
  induction g with
  | zero =>
    intro b l hb hc
    refine ⟨b, hb, ?_, rfl⟩
    rcases Nat.eq_zero_or_pos (catchV n J h b) with e | e
    · exact e
    · have := cold_upd (catch_hot (by omega : catchV n J h b ≠ 0)).1 (catch_cold (by omega)); omega
  | succ g ih =>
    intro b l hb hc
    simp only [burnL]
    by_cases e : catchV n J h b = 0
    · rw [if_pos e]; exact ⟨b, hb, e, rfl⟩
    · rw [if_neg e]
      have h1 := cold_upd (catch_hot e).1 (catch_cold e)
      obtain ⟨b', h2, h3, h4⟩ := ih (upd b (catchV n J h b)) (l ++ [catchV n J h b]) (by simp [upd, hb]) (by omega)
      refine ⟨b', h2, h3, ?_⟩
      rw [h4]; simp; omega
theorem catch_none {n : Nat} {J : Nat → Nat → Nat} {h : Nat → Int} {b : Nat → Bool} (hc : catchV n J h b = 0) (hb : b 0 = true) : ∀ v, v < n → hot n J h b v = false := by
  intro v hv
  cases e : hot n J h b v with
  | false => rfl
  | true =>
    have h0 : hot n J h b 0 = false := by simp [hot, hb]
    unfold catchV at hc
    by_cases e2 : least (hot n J h b) n < n
    · rw [if_pos e2] at hc
      have := (least_some e2).1
      rw [hc, h0] at this; cases this
    · have := least_none.1 (Nat.le_antisymm (least_le (hot n J h b) n) (by omega)) v hv
      rw [e] at this; cases this
theorem con_false {n : Nat} {A B : Nat → Int} {m : Nat} (hn : 1 ≤ n) (hE : allN (fun i => edgeB n (A i) (B i)) m = true) (h : conB n (degN A B m) (btwN A B m) = false) : ∃ v : Nat, v < n ∧ ¬ Reach A B m v := by
  obtain ⟨j0, js⟩ := edges_sum hE
  have hc0 := cold_start hn
  obtain ⟨b, h1, h2, h3⟩ := burnL_end (n := n) (J := btwN A B m) (h := fun i => (degN A B m (i + 1) : Int) - 1) n (fun i => decide (i = 0)) [] rfl (by omega)
  have hlen : (burnAll n (btwN A B m) (fun i => (degN A B m (i + 1) : Int) - 1)).length ≠ n - 1 := by simpa [conB] using h
  unfold burnAll at hlen
  simp only [List.length_nil] at h3
  have hcold : 1 ≤ cold b n := by omega
  obtain ⟨v, hv, hbv⟩ := cnt_some hcold
  have hcn := catch_none h2 h1
  refine ⟨v, hv, fun hr => ?_⟩
  have key : ∀ x y : Nat, x < n → y < n → 1 ≤ btwN A B m x y → b x = false → b y = true → False := fun x y hx hy hJ hbx hby => by
    have h4 := hcn x hx
    have h5 : unb n (btwN A B m) b x < sumN (btwN A B m x) n := sumN_less (fun i _ => by show (if _ then _ else _) ≤ _; split <;> omega) hy (by show (if b y = true then 0 else _) < _; rw [if_pos hby]; omega)
    have hx0 : x ≠ 0 := fun e => by rw [e, h1] at hbx; cases hbx
    rw [js x] at h5
    simp only [hot, hbx, Bool.not_false, Bool.true_and, decide_eq_false_iff_not] at h4
    rw [show x - 1 + 1 = x by omega] at h4
    omega
  have := hr (fun z => decide (0 ≤ z) && (decide (z < n) && !b z.toNat)) (by simp [h1]) (fun i hi => by
    obtain ⟨x, y, ha, hb, hx, hy, hxy⟩ := edgeB_true (allN_true.1 hE i hi)
    have e1 : 1 ≤ btwN A B m x y := cnt_pos hi (by simp [ha, hb])
    have e2 : 1 ≤ btwN A B m y x := cnt_pos hi (by simp [ha, hb])
    have k1 := key x y hx hy e1
    have k2 := key y x hy hx e2
    rw [ha, hb]
    cases ex : b x <;> cases ey : b y
    · simp [ex, ey]; omega
    · exact (k1 ex ey).elim
    · exact (k2 ey ex).elim
    · simp [ex, ey])
  simp only [Bool.not_eq_true'] at hbv
  simp [hbv, hv] at this
theorem con_near {n : Nat} {A B : Nat → Int} {m : Nat} (hn : 1 ≤ n) (hE : allN (fun i => edgeB n (A i) (B i)) m = true) (h : conB n (degN A B m) (btwN A B m) = true) : ∀ v, v < n → Near A B m n v := by
  obtain ⟨j0, js⟩ := edges_sum hE
  have hc0 := cold_start hn
  have hstart : BInv n (btwN A B m) (fun i => decide (i = 0)) [] (fun _ => 0) := ⟨rfl, rfl, by simp only [List.length_nil]; omega, fun _ _ _ => Nat.le_refl _, fun v _ hb hv => absurd (by simpa using hb) hv⟩
  obtain ⟨b, p, inv⟩ := burnL_inv (D := degN A B m) (fun i _ => js i) n _ _ _ hstart
  have hlen : (burnAll n (btwN A B m) (fun i => (degN A B m (i + 1) : Int) - 1)).length = n - 1 := by simpa [conB] using h
  unfold burnAll at hlen
  have hcold : cold b n = 0 := by have := inv.left; omega
  have hb : ∀ v, v < n → b v = true := fun v hv => by have := cnt_zero hcold v hv; simpa using this
  have hnear : ∀ r v, v < n → p v ≤ r → Near A B m r (v : Nat) := by
    intro r
    induction r with
    | zero =>
      intro v hv hr
      by_cases e : v = 0
      · subst e; rfl
      · obtain ⟨u, _, _, h3, _⟩ := inv.rank v hv (hb v hv) e; omega
    | succ r ih =>
      intro v hv hr
      by_cases e : v = 0
      · subst e; exact Or.inl (ih 0 hv (by rw [inv.p0]; omega))
      · obtain ⟨u, hu, _, h3, h4⟩ := inv.rank v hv (hb v hv) e
        obtain ⟨i, hi, hp⟩ := cnt_some h4
        have hN := ih u hu (by omega)
        refine Or.inr ⟨i, hi, ?_⟩
        simp only [Bool.or_eq_true, Bool.and_eq_true, beq_iff_eq] at hp
        rcases hp with ⟨h5, h6⟩ | ⟨h5, h6⟩
        · exact Or.inl ⟨h5, by rw [h6]; exact hN⟩
        · exact Or.inr ⟨h6, by rw [h5]; exact hN⟩
  intro v hv
  have := inv.low v hv (hb v hv)
  exact hnear n v hv (by omega)
theorem con_seen {n : Nat} {A B : Nat → Int} {m : Nat} {s : Nat → Bool} (hn : 1 ≤ n) (hE : allN (fun i => edgeB n (A i) (B i)) m = true) (h1 : ∀ v, v < n → s v = true → Reach A B m (v : Nat)) (h2 : ∀ v, v < n → Near A B m n (v : Nat) → s v = true) : allN s n = conB n (degN A B m) (btwN A B m) := by
  cases e : conB n (degN A B m) (btwN A B m) with
  | true => exact allN_true.2 (fun v hv => h2 v hv (con_near hn hE e v hv))
  | false =>
    obtain ⟨v, hv, hr⟩ := con_false hn hE e
    cases es : s v with
    | true => exact (hr (h1 v hv es)).elim
    | false => exact allN_false hv es
end Go.Proofs.Ytlnpipkhofhlnaa
namespace Go.Proofs.Ytlnpipkhofhlnaa
open Go.RowKit Go.Deep

theorem in_at (w : World) (v lo hi : Int) (r : Bool) (hr : (decide (lo ≤ v) && decide (v ≤ hi)) = r) : Calls Try.prog 37 #[.int .i64 v, .int .i64 lo, .int .i64 hi] w fun e w' => e = .returned (.bool r) ∧ w = w' := by
  subst hr
  exact in_any w v lo hi
def okE (q a b : Int) : Bool := (decide (0 ≤ a) && decide (a ≤ q)) && (decide (0 ≤ b) && decide (b ≤ q)) && !(a == b)
theorem okE_edge {n : Int} (h1 : 2 ≤ n) (a b : Int) : okE (n - 1) a b = edgeB n.toNat a b := by
  have e : ∀ z : Int, (decide (0 ≤ z) && decide (z ≤ n - 1)) = (decide (0 ≤ z) && decide (z < (n.toNat : Int))) := fun z => by rw [Bool.eq_iff_iff]; simp; omega
  unfold okE edgeB hasB
  rw [e a, e b]
theorem good_bad {n q : Int} {A B : Nat → Int} {m k : Nat} (hq : Hid (IntKind.i64.wrap (n - 1) = q)) (hk : k < m) (h : okE q (A k) (B k) = false) : goodB n A B m = false := by
  by_cases hn : 2 ≤ n ∧ n ≤ 8
  · have e : q = n - 1 := by rw [← hq.out]; exact IntWalk.i64_in _ (by omega)
    obtain ⟨N, rfl⟩ : ∃ N : Nat, n = (N : Int) := ⟨n.toNat, by omega⟩
    exact bad_edge hk (by rw [← h, e, okE_edge (by omega), Int.toNat_natCast])
  · unfold goodB
    have : (decide (2 ≤ n) && decide (n ≤ 8)) = false := by simp; omega
    rw [this]; simp
theorem good_range {n : Int} {A B : Nat → Int} {m : Nat} (h : (decide (2 ≤ n) && decide (n ≤ 8)) = false) : goodB n A B m = false := by
  unfold goodB; rw [h]; simp
theorem good_many {n : Int} {A B : Nat → Int} {m : Nat} (h : ¬ m ≤ 20) : goodB n A B m = false := by
  unfold goodB; simp [h]
theorem Reach.ab {A B : Nat → Int} {m i : Nat} (hi : i < m) (h : Reach A B m (A i)) : Reach A B m (B i) := fun C h0 hC => (hC i hi).symm.trans (h C h0 hC)
theorem Reach.ba {A B : Nat → Int} {m i : Nat} (hi : i < m) (h : Reach A B m (B i)) : Reach A B m (A i) := fun C h0 hC => (hC i hi).trans (h C h0 hC)
/-- what is seen after k rounds and j edges more -/
structure SeenI (N : Nat) (A B : Nat → Int) (m k j : Nat) (s : Nat → Bool) : Prop where
  sound : ∀ v, v < N → s v = true → Reach A B m (v : Nat)
  near : ∀ v, v < N → Near A B m k (v : Nat) → s v = true
  ab : ∀ i, i < j → Near A B m k (A i) → s (B i).toNat = true
  ba : ∀ i, i < j → Near A B m k (B i) → s (A i).toNat = true
theorem SeenI.start {N : Nat} {A B : Nat → Int} {m : Nat} : SeenI N A B m 0 0 (fun i => decide (i = 0)) :=
  ⟨fun v _ h C h0 _ => by have e : v = 0 := by simpa using h
                          subst e; exact h0, fun v _ h => by have e : (v : Int) = 0 := h
                                                             simp; omega, fun i hi => by omega, fun i hi => by omega⟩
theorem SeenI.next {N : Nat} {A B : Nat → Int} {m k : Nat} {s : Nat → Bool} (h : SeenI N A B m k m s) : SeenI N A B m (k + 1) 0 s := by
  refine ⟨h.sound, fun v hv hN => ?_, fun i hi => by omega, fun i hi => by omega⟩
  rcases hN with hN | ⟨i, hi, ⟨e, hN⟩ | ⟨e, hN⟩⟩
  · exact h.near v hv hN
  · have := h.ba i hi hN; rw [e] at this; simpa using this
  · have := h.ab i hi hN; rw [e] at this; simpa using this
theorem SeenI.skip {N : Nat} {A B : Nat → Int} {m k j x y : Nat} {s : Nat → Bool} (h : SeenI N A B m k j s) (ha : A j = x) (hb : B j = y) (hx : x < N) (hy : y < N) (sx : s x = false) (sy : s y = false) : SeenI N A B m k (j + 1) s := by
  refine ⟨h.sound, h.near, fun i hi hN => ?_, fun i hi hN => ?_⟩
  · by_cases e : i = j
    · rw [e, ha] at hN; have := h.near x hx hN; rw [sx] at this; cases this
    · exact h.ab i (by omega) hN
  · by_cases e : i = j
    · rw [e, hb] at hN; have := h.near y hy hN; rw [sy] at this; cases this
    · exact h.ba i (by omega) hN
theorem upd_keep {s : Nat → Bool} {x v : Nat} (h : s v = true) : upd s x v = true := by unfold upd; split <;> simp [h]
theorem SeenI.join {N : Nat} {A B : Nat → Int} {m k j x y : Nat} {s : Nat → Bool} (h : SeenI N A B m k j s) (hj : j < m) (ha : A j = x) (hb : B j = y) (hx : x < N) (hy : y < N) (sxy : s x = true ∨ s y = true) : SeenI N A B m k (j + 1) (upd (upd s x) y) := by
  have rx : Reach A B m (A j) := by
    rcases sxy with e | e
    · rw [ha]; exact h.sound x hx e
    · exact Reach.ba hj (by rw [hb]; exact h.sound y hy e)
  have ry : Reach A B m (B j) := Reach.ab hj rx
  have tx : upd (upd s x) y x = true := upd_keep (by simp [upd])
  have ty : upd (upd s x) y y = true := by simp [upd]
  refine ⟨fun v hv hs => ?_, fun v hv hN => upd_keep (upd_keep (h.near v hv hN)), fun i hi hN => ?_, fun i hi hN => ?_⟩
  · by_cases e1 : v = y
    · rw [e1, ← hb]; exact ry
    · by_cases e2 : v = x
      · rw [e2, ← ha]; exact rx
      · exact h.sound v hv (by simpa [upd, e1, e2] using hs)
  · by_cases e : i = j
    · rw [e, hb]; simpa using ty
    · exact upd_keep (upd_keep (h.ab i (by omega) hN))
  · by_cases e : i = j
    · rw [e, ha]; simpa using tx
    · exact upd_keep (upd_keep (h.ba i (by omega) hN))

set_option maxRecDepth 100000 in
set_option maxHeartbeats 4000000 in
theorem isyard_any (w : World) (n : Int) (ev : Value) (A B : Nat → Int) (m : Nat) (hE : PairsAt w ev m A B) (hm : m ≤ 1000000) :
    Calls Try.prog 11 #[.int .i64 n, ev] w fun e w' => e = .returned (.bool (goodB n A B m)) ∧ Kept w w' := by
  obtain ⟨ea, eb, eo, ecap, rfl, hea, hec⟩ := hE
  obtain ⟨q, hq⟩ : ∃ q, Hid (IntKind.i64.wrap (n - 1) = q) := ⟨_, rfl⟩
  go_enter Try.func11, Try.ntmps11
  go_wp2_with fail
  go_loopg [5] m (fun g i wr => ∃ k : Nat, k ≤ m ∧ g = m - k ∧ i = .int .i64 k ∧ Hid (allN (fun i => okE q (A i) (B i)) k = true) ∧ Quiet w wr)
  case atStart => exact ⟨0, Nat.zero_le _, rfl, rfl, rfl, Quiet.refl _⟩
  case round =>
    obtain ⟨k, hk, rfl, rfl, hH, hqw⟩ := hrel
    by_cases hlt : k < m
    · obtain rfl := hea (by omega)
      obtain ⟨g1, g2⟩ := hec k hlt
      have h1 := hqw.kept.cellSome g1
      have h2 := hqw.kept.cellSome g2
      clear hec hea g1 g2
      cases e1 : (decide (0 ≤ A k) && decide (A k ≤ q))
      · have hbad : okE q (A k) (B k) = false := by unfold okE; rw [e1]; rfl
        have hg : Hid (goodB n A B m = false) := good_bad hq hlt hbad
        go_wp2_with fail
        have hw := hq.out
        go_quiet ((go_at_call 37; exact quietS (in_at _ _ _ _ _ e1)))
        go_wp2_with fail
        go_ret
        exact ⟨by rw [hg.out]; rfl, hqw.kept.trans (by repeat (first | assumption | exact Kept.refl _ | apply Kept.drew | apply Kept.drewN | apply Kept.alloc | refine Kept.trans ?_ (by assumption)))⟩
      · cases e2 : (decide (0 ≤ B k) && decide (B k ≤ q))
        · have hbad : okE q (A k) (B k) = false := by unfold okE; rw [e1, e2]; rfl
          have hg : Hid (goodB n A B m = false) := good_bad hq hlt hbad
          go_wp2_with fail
          have hw := hq.out
          go_quiet ((go_at_call 37; first | exact quietS (in_at _ _ _ _ _ e1) | exact quietS (in_at _ _ _ _ _ e2)))
          go_wp2_with fail
          go_ret
          exact ⟨by rw [hg.out]; rfl, hqw.kept.trans (by repeat (first | assumption | exact Kept.refl _ | apply Kept.drew | apply Kept.drewN | apply Kept.alloc | refine Kept.trans ?_ (by assumption)))⟩
        · cases e3 : (A k == B k)
          · have hok : okE q (A k) (B k) = true := by unfold okE; rw [e1, e2, e3]; rfl
            have hN := allN_step hH.out hok
            have HN := Lib.hid hN
            clear hN
            go_wp2_with fail
            have hw := hq.out
            go_quiet ((go_at_call 37; first | exact quietS (in_at _ _ _ _ _ e1) | exact quietS (in_at _ _ _ _ _ e2)))
            go_wp2_with fail
            go_roundg (m - (k+1))
            case measure => omega
            case rel => exact ⟨k + 1, by omega, rfl, by go_num, HN.out, by repeat (first | exact hqw | apply Quiet.drewN | apply Quiet.drew)⟩
          · have hbad : okE q (A k) (B k) = false := by unfold okE; rw [e1, e2, e3]; rfl
            have hg : Hid (goodB n A B m = false) := good_bad hq hlt hbad
            go_wp2_with fail
            have hw := hq.out
            go_quiet ((go_at_call 37; first | exact quietS (in_at _ _ _ _ _ e1) | exact quietS (in_at _ _ _ _ _ e2)))
            go_wp2_with fail
            go_ret
            exact ⟨by rw [hg.out]; rfl, hqw.kept.trans (by repeat (first | assumption | exact Kept.refl _ | apply Kept.drew | apply Kept.drewN | apply Kept.alloc | refine Kept.trans ?_ (by assumption)))⟩
    · obtain rfl : k = m := by omega
      cases e4 : (decide (2 ≤ n) && decide (n ≤ 8))
      · have hg : Hid (goodB n A B k = false) := good_range e4
        go_wp2_with (go_at_call 37; refine (in_at _ _ _ _ _ e4).mono ?_; rintro e w' ⟨rfl, rfl⟩)
        go_ret
        exact ⟨by rw [hg.out]; rfl, hqw.kept⟩
      · by_cases h20 : k ≤ 20
        · obtain ⟨N, rfl⟩ : ∃ N : Nat, n = (N : Int) := ⟨n.toNat, by simp at e4; omega⟩
          have hN2 : 2 ≤ N ∧ N ≤ 8 := by simp at e4; omega
          obtain ⟨hn2, hn8⟩ := hN2
          have hq1 : q = (N : Int) - 1 := by rw [← hq.out]; exact IntWalk.i64_in _ (by omega)
          have hE1 : allN (fun i => edgeB N (A i) (B i)) k = true := by
            refine allN_true.2 (fun i hi => ?_)
            have := allN_true.1 hH.out i hi
            rw [hq1, okE_edge (by omega)] at this
            simpa using this
          have hgood : goodB (N : Int) A B k = conB N (degN A B k) (btwN A B k) := by
            unfold goodB; simp only [Int.toNat_natCast]; rw [hE1, e4]; simp [h20]
          have HE := Lib.hid hE1
          have HG := Lib.hid hgood
          have hkw := hqw.kept
          clear hE1 hgood hq1 hq hH hqw
          have hmk := fun w => mkBools (N : Int) N rfl (by omega) w
          have hn0 : (0 : Int) < N := by omega
          have hm0 := made_get (.bool false) N 0 (by omega)
          obtain ⟨Wo, rfl⟩ : ∃ Wo : World, Wo = wr := ⟨_, rfl⟩
          have hrow := (row_made_set Wo (.bool false) (.bool true) N 0 4).congr (g := fun i => .bool (decide (i = 0))) (fun i _ => by by_cases e : i = 0 <;> simp [e])
          have hK0 : Kept w (Wo.alloc (.cells ((madeCells #[.bool false] N).setIfInBounds 0 (.bool true)) 4)) := hkw.alloc _
          have hsz : w.heap.size ≤ Wo.heap.size := Kept.size hkw
          have HR := Lib.hid hrow
          clear hrow
          go_wp2_with (go_at_call 37; refine (in_at _ _ _ _ _ e4).mono ?_; rintro e w' ⟨rfl, rfl⟩)
          have hR0 := HR.out
          clear HR hm0 hmk
          generalize Wo.alloc (.cells ((madeCells #[.bool false] N).setIfInBounds 0 (.bool true)) 4) = W0 at *
          obtain ⟨g0, hg0⟩ : ∃ g0, Hid (g0 = Wo.heap.size) := ⟨_, rfl⟩
          rw [← hg0.out] at hR0 hsz ⊢
          go_loopg [7] N (fun g r wr => ∃ (t : Nat) (s : Nat → Bool), t ≤ N ∧ g = N - t ∧ r = .int .i64 t ∧ Kept w wr ∧ wr.rowIs g0 4 N (fun i => .bool (s i)) ∧ SeenI N A B k t 0 s)
          case atStart => exact ⟨0, fun i => decide (i = 0), Nat.zero_le _, rfl, rfl, hK0, hR0, SeenI.start⟩
          case round =>
            obtain ⟨t, s, ht, rfl, rfl, hK, hR, hS⟩ := hrel
            clear hK0 hR0
            by_cases htN : t < N
            · go_wp2_with fail
              obtain ⟨Wi, rfl⟩ : ∃ Wi : World, Wi = wr := ⟨_, rfl⟩
              go_loopg [8] k (fun g i wi => ∃ (j : Nat) (s : Nat → Bool), j ≤ k ∧ g = k - j ∧ i = .int .i64 j ∧ Kept w wi ∧ wi.rowIs g0 4 N (fun i => .bool (s i)) ∧ SeenI N A B k t j s)
              case atStart => exact ⟨0, s, Nat.zero_le _, rfl, rfl, hK, hR, hS⟩
              case round =>
                clear hK hR hS
                obtain ⟨j, s, hj, rfl, rfl, hK, hR, hS⟩ := hrel
                by_cases hjk : j < k
                · obtain rfl := hea (by omega)
                  obtain ⟨x, y, ha, hb, hx, hy, hxy⟩ := edgeB_true (allN_true.1 HE.out j hjk)
                  obtain ⟨p1, p2⟩ := hec j hjk
                  have h1 := hK.cellSome p1
                  have h2 := hK.cellSome p2
                  rw [ha] at h1
                  rw [hb] at h2
                  have t1 := hR.cell hx
                  have t2 := hR.cell hy
                  have f1 := hR.frozen x
                  have f2 := hR.frozen y
                  have hAB := Lib.hid (And.intro ha hb)
                  clear ha hb p1 p2
                  cases ex : s x
                  · cases ey : s y
                    · rw [ex] at t1
                      rw [ey] at t2
                      go_wp2_with fail
                      go_roundg (k - (j+1))
                      case measure => omega
                      case rel => exact ⟨j + 1, s, by omega, rfl, by go_num, hK, hR, hS.skip hAB.out.1 hAB.out.2 hx hy ex ey⟩
                    · rw [ex] at t1
                      rw [ey] at t2
                      have HS := Lib.hid (hS.join hjk hAB.out.1 hAB.out.2 hx hy (Or.inr ey))
                      go_wp2_with fail
                      go_region
                      all_goals
                        go_wp2_with fail
                        go_roundg (k - (j+1))
                        case measure => omega
                        case rel => exact ⟨j + 1, upd (upd s x) y, by omega, rfl, by go_num, ((((hK.setCell (show w.heap.size ≤ g0 from hsz) _).setCell (show w.heap.size ≤ g0 from hsz) _)).trans (by repeat (first | assumption | exact Kept.refl _ | apply Kept.drew | apply Kept.drewN | apply Kept.alloc | refine Kept.trans ?_ (by assumption)))), (Kept.row ((by repeat (first | assumption | exact Kept.refl _ | apply Kept.drew | apply Kept.drewN | apply Kept.alloc | refine Kept.trans ?_ (by assumption))) : Kept ((wr.setCell ⟨g0, x, none⟩ (.bool true)).setCell ⟨g0, y, none⟩ (.bool true)) _) (((hR.set x (.bool true)).set y (.bool true)).congr (g := fun i => .bool (upd (upd s x) y i)) (fun i _ => by simp only [upd]; by_cases e1 : i = y <;> by_cases e2 : i = x <;> simp [e1, e2]))), HS.out⟩
                  · rw [ex] at t1
                    have HS := Lib.hid (hS.join hjk hAB.out.1 hAB.out.2 hx hy (Or.inl ex))
                    go_wp2_with fail
                    go_region
                    all_goals
                      go_wp2_with fail
                      go_roundg (k - (j+1))
                      case measure => omega
                      case rel => exact ⟨j + 1, upd (upd s x) y, by omega, rfl, by go_num, ((((hK.setCell (show w.heap.size ≤ g0 from hsz) _).setCell (show w.heap.size ≤ g0 from hsz) _)).trans (by repeat (first | assumption | exact Kept.refl _ | apply Kept.drew | apply Kept.drewN | apply Kept.alloc | refine Kept.trans ?_ (by assumption)))), (Kept.row ((by repeat (first | assumption | exact Kept.refl _ | apply Kept.drew | apply Kept.drewN | apply Kept.alloc | refine Kept.trans ?_ (by assumption))) : Kept ((wr.setCell ⟨g0, x, none⟩ (.bool true)).setCell ⟨g0, y, none⟩ (.bool true)) _) (((hR.set x (.bool true)).set y (.bool true)).congr (g := fun i => .bool (upd (upd s x) y i)) (fun i _ => by simp only [upd]; by_cases e1 : i = y <;> by_cases e2 : i = x <;> simp [e1, e2]))), HS.out⟩
                · obtain rfl : j = k := by omega
                  go_wp2_with fail
                  go_roundg (N - (t+1))
                  case measure => omega
                  case rel => exact ⟨t + 1, s, by omega, rfl, by go_num, hK, hR, hS.next⟩
            · obtain rfl : t = N := by omega
              have hseen := con_seen (by omega) HE.out hS.sound hS.near
              have HC := Lib.hid hseen
              clear hseen
              go_wp2_with fail
              obtain ⟨Wi, rfl⟩ : ∃ Wi : World, Wi = wr := ⟨_, rfl⟩
              go_loopg [9] t (fun g v wi => ∃ u : Nat, u ≤ t ∧ g = t - u ∧ v = .int .i64 u ∧ Hid (allN s u = true) ∧ Wi = wi)
              case atStart => exact ⟨0, Nat.zero_le _, rfl, rfl, rfl, rfl⟩
              case round =>
                obtain ⟨u, hu, rfl, rfl, hall, rfl⟩ := hrel
                by_cases hut : u < t
                · have h1 := hR.cell hut
                  cases es : s u
                  · rw [es] at h1
                    have hres : Hid (goodB (t : Int) A B k = false) := by show _ = _; rw [HG.out, ← HC.out, allN_false hut es]
                    go_wp2_with fail
                    go_ret
                    exact ⟨by rw [hres.out]; rfl, hK⟩
                  · rw [es] at h1
                    have hstep := Lib.hid (allN_step hall.out es)
                    go_wp2_with fail
                    go_roundg (t - (u+1))
                    case measure => omega
                    case rel => exact ⟨u + 1, by omega, rfl, by go_num, hstep.out, rfl⟩
                · obtain rfl : u = t := by omega
                  have hres : Hid (goodB (u : Int) A B k = true) := by show _ = _; rw [HG.out, ← HC.out, hall.out]
                  go_wp2_with fail
                  go_ret
                  exact ⟨by rw [hres.out]; rfl, hK⟩
        · have hg : Hid (goodB n A B k = false) := good_many h20
          go_wp2_with (go_at_call 37; refine (in_at _ _ _ _ _ e4).mono ?_; rintro e w' ⟨rfl, rfl⟩)
          go_ret
          exact ⟨by rw [hg.out]; rfl, hqw.kept⟩
end Go.Proofs.Ytlnpipkhofhlnaa
