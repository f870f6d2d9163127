/-
  The reference's Along: the greatest distance and the sum of a walk.
-/
import Derived.Test.YtfmcjbddbomohaaBk
namespace Go.Proofs.Ytfmcjbddbomohaa
open Go.RowKit Go.Deep

/-- the greatest of the first k, from 0 on -/
def cumM (G : Nat → Int) : Nat → Int
  | 0 => 0
  | k + 1 => max (cumM G k) (G k)
theorem cum_bd {G : Nat → Int} {B : Int} {k : Nat} (hB : 0 ≤ B) (h : ∀ t, t < k → 0 ≤ G t ∧ G t ≤ B) : (0 ≤ cumS G k ∧ cumS G k ≤ B * k) ∧ (0 ≤ cumM G k ∧ cumM G k ≤ B) := by
  induction k with
  | zero => simp [cumS, cumM, hB]
  | succ k ih =>
    obtain ⟨h1, h2⟩ := ih (fun t ht => h t (by omega))
    have h3 := h k (by omega)
    have e : B * ((k + 1 : Nat) : Int) = B * k + B := by rw [Int.natCast_succ, Int.mul_add, Int.mul_one]
    simp only [cumS, cumM]
    rw [e]
    omega
theorem pair_eqI (a b c d : Int) (h1 : a = c) (h2 : b = d) (w : World) : (binOp .eql 98 (.agg #[.int .i64 a, .int .i64 b]) (.agg #[.int .i64 c, .int .i64 d])).run Try.prog w = .ok (.bool true) w := by
  subst h1; subst h2
  go_simp
set_option maxRecDepth 100000 in
set_option maxHeartbeats 8000000 in
theorem along_any (w : World) (m n T : Nat) (a1 a2 a3 : Option Addr) (cap1 cap2 cap3 : Nat) (X Y U V : Nat → Int) (a b : Nat → Nat) (hA : PairsAt w (.slice a1 m cap1) m X Y) (hB : PairsAt w (.slice a2 n cap2) n U V) (hP : PairsAt w (.slice a3 (T + 1) cap3) (T + 1) (fun t => (a t : Int)) (fun t => (b t : Int))) (h1 : InR m X Y) (h2 : InR n U V) (hm : 1 ≤ m) (hn : 1 ≤ n) (hm2 : m ≤ 30) (hn2 : n ≤ 30) (hT : T ≤ 60) (hW : IsWalk m n T a b) :
    Calls Try.prog 39 #[.slice a1 m cap1, .slice a2 n cap2, .slice a3 (T + 1) cap3] w fun e w' => e = .returned (.tuple #[.int .i64 (cumM (fun t => distF X Y U V (a t) (b t)) (T + 1)), .int .i64 (cumS (fun t => distF X Y U V (a t) (b t)) (T + 1)), .bool true]) ∧ Kept w w' := by
  obtain ⟨_, b1, o1, _, e1, ha1, hc1⟩ := hA
  cases e1
  obtain rfl := ha1 (by omega)
  obtain ⟨_, b2, o2, _, e2, ha2, hc2⟩ := hB
  cases e2
  obtain rfl := ha2 (by omega)
  obtain ⟨_, b3, o3, _, e3, ha3, hc3⟩ := hP
  cases e3
  obtain rfl := ha3 (by omega)
  have HC1 := Lib.hid hc1
  have HC2 := Lib.hid hc2
  have HC3 := Lib.hid hc3
  have HI1 := Lib.hid h1
  have HI2 := Lib.hid h2
  have HW := Lib.hid hW
  obtain ⟨L, HL⟩ : ∃ L, Hid (L = T + 1) := ⟨_, rfl⟩
  have hL1 : 1 ≤ L := by have := HL.out; omega
  have hL2 : L ≤ 61 := by have := HL.out; omega
  rw [← HL.out] at HC3 ⊢
  have hcb : ∀ k, k ≤ L → (0 ≤ cumS (fun t => distF X Y U V (a t) (b t)) k ∧ cumS (fun t => distF X Y U V (a t) (b t)) k ≤ 8000000 * k) ∧ (0 ≤ cumM (fun t => distF X Y U V (a t) (b t)) k ∧ cumM (fun t => distF X Y U V (a t) (b t)) k ≤ 8000000) := fun k hk => cum_bd (by omega) (fun t ht => dist_bd (h1 _ (hW.am t (by have := HL.out; omega))).1 (h1 _ (hW.am t (by have := HL.out; omega))).2 (h2 _ (hW.bn t (by have := HL.out; omega))).1 (h2 _ (hW.bn t (by have := HL.out; omega))).2)
  have HCB := Lib.hid hcb
  have e00 : Hid ((a 0 : Int) = 0 ∧ (b 0 : Int) = 0) := by rw [hW.a0, hW.b0]; exact ⟨rfl, rfl⟩
  have eTT : Hid ((a (L - 1) : Int) = (m : Int) - 1 ∧ (b (L - 1) : Int) = (n : Int) - 1) := by
    have h3 := hW.aT
    have h4 := hW.bT
    have h5 : L - 1 = T := by have := HL.out; omega
    rw [h5]
    exact ⟨by omega, by omega⟩
  clear hc1 hc2 hc3 ha1 ha2 ha3 h1 h2 hW hcb hT
  go_enter Try.func39, Try.ntmps39
  go_wp2_with fail
  go_loopg [9, 10, 11] L (fun g s9 s10 s11 wr => ∃ t : Nat, t ≤ L ∧ g = L - t ∧ s11 = .int .i64 t ∧ s9 = .int .i64 (cumM (fun t => distF X Y U V (a t) (b t)) t) ∧ s10 = .int .i64 (cumS (fun t => distF X Y U V (a t) (b t)) t) ∧ Kept w wr)
  case atStart => exact ⟨0, by omega, by omega, rfl, rfl, rfl, Kept.refl _⟩
  case round =>
    obtain ⟨t, ht, rfl, rfl, rfl, rfl, hK⟩ := hrel
    by_cases hlt : t < L
    · have hcb := HCB.out t ht
      have hm1 : Hid (cumM (fun t => distF X Y U V (a t) (b t)) (t + 1) = max (cumM (fun t => distF X Y U V (a t) (b t)) t) (dist (X (a t)) (Y (a t)) (U (b t)) (V (b t)))) := rfl
      have hs1 : Hid (cumS (fun t => distF X Y U V (a t) (b t)) (t + 1) = cumS (fun t => distF X Y U V (a t) (b t)) t + dist (X (a t)) (Y (a t)) (U (b t)) (V (b t))) := rfl
      obtain ⟨mm, HM⟩ : ∃ mm, Hid (mm = cumM (fun t => distF X Y U V (a t) (b t)) t) := ⟨_, rfl⟩
      obtain ⟨ss, HS⟩ : ∃ ss, Hid (ss = cumS (fun t => distF X Y U V (a t) (b t)) t) := ⟨_, rfl⟩
      rw [← HM.out, ← HS.out] at hcb
      rw [← HM.out] at hm1
      rw [← HS.out] at hs1
      rw [← HM.out, ← HS.out]
      obtain ⟨c0, c1⟩ := HC3.out t hlt
      have ham := HW.out.am t (by have := HL.out; omega)
      have hbn := HW.out.bn t (by have := HL.out; omega)
      have hstep : ∀ u, u + 1 = t → 0 ≤ (a t : Int) - a u ∧ (a t : Int) - a u ≤ 1 ∧ 0 ≤ (b t : Int) - b u ∧ (b t : Int) - b u ≤ 1 ∧ (a t : Int) - a u + ((b t : Int) - b u) ≠ 0 := fun u hu => by
        subst hu
        have h3 := HW.out.st u (by have := HL.out; omega)
        omega
      have HST := Lib.hid hstep
      obtain ⟨p, HP⟩ : ∃ p, Hid (p = a t) := ⟨_, rfl⟩
      obtain ⟨q, HQ⟩ : ∃ q, Hid (q = b t) := ⟨_, rfl⟩
      rw [← HP.out] at c0 ham hm1 hs1 HST
      rw [← HQ.out] at c1 hbn hm1 hs1 HST
      have t0 := hK.cellSome c0
      have t1 := hK.cellSome c1
      obtain ⟨d, HD⟩ : ∃ d, Hid (d = dist (X p) (Y p) (U q) (V q)) := ⟨_, rfl⟩
      rw [← HD.out] at hm1 hs1
      have hdb := dist_bd (HI1.out p ham).1 (HI1.out p ham).2 (HI2.out q hbn).1 (HI2.out q hbn).2
      rw [← HD.out] at hdb
      have s1 : (p : Int) < m := by omega
      have s2 : (q : Int) < n := by omega
      have s3 : (0 : Int) ≤ p := by omega
      have s4 : (0 : Int) ≤ q := by omega
      have n1 : ¬ ((p : Int) < 0) := by omega
      have n2 : ¬ ((q : Int) < 0) := by omega
      have n3 : ¬ ((m : Int) ≤ p) := by omega
      have n4 : ¬ ((n : Int) ≤ q) := by omega
      have s5 : (t : Int) < L := by omega
      have s6 : (0 : Int) ≤ t := by omega
      clear hstep
      have hcase : t = 0 ∨ ∃ u, u + 1 = t := by
        cases t with
        | zero => exact .inl rfl
        | succ u => exact .inr ⟨u, rfl⟩
      rcases hcase with h0 | ⟨u, hu⟩
      · have hnz : ¬ (0 : Int) < (t : Int) := by omega
        clear h0
        go_wp2_with fail
        have hK8 := hK
        clear t0 t1 hK
        generalize wr = W8 at *
        obtain ⟨e0, e1⟩ := HC1.out p ham
        obtain ⟨e2, e3⟩ := HC2.out q hbn
        have x0 := hK8.cellSome e0
        have x1 := hK8.cellSome e1
        have y0 := hK8.cellSome e2
        have y1 := hK8.cellSome e3
        have w0 := hK8.cellSome c0
        have w1 := hK8.cellSome c1
        clear e0 e1 e2 e3 c0 c1
        by_cases hmx : mm < d
        · go_region_held3 (fun w' => w'.cell? ⟨b3, o3 + t * 2, none⟩ = some (.int .i64 p) ∧ w'.cell? ⟨b3, o3 + t * 2 + 1, none⟩ = some (.int .i64 q) ∧ w'.cell? ⟨b1, o1 + p * 2, none⟩ = some (.int .i64 (X p)) ∧ w'.cell? ⟨b1, o1 + p * 2 + 1, none⟩ = some (.int .i64 (Y p)) ∧ w'.cell? ⟨b2, o2 + q * 2, none⟩ = some (.int .i64 (U q)) ∧ w'.cell? ⟨b2, o2 + q * 2 + 1, none⟩ = some (.int .i64 (V q)) ∧ Kept W8 w')
            (first | exact keep6 w0 w1 x0 x1 y0 y1 (by repeat (first | assumption | exact Kept.refl _ | apply Kept.drew | apply Kept.drewN | apply Kept.alloc | refine Kept.trans ?_ (by assumption))))
            (first | (go_at_call 51; refine (far_any _ (X p) (Y p) (U q) (V q) (HI1.out p ham).1 (HI1.out p ham).2 (HI2.out q hbn).1 (HI2.out q hbn).2).mono ?_; rw [← HD.out]; rintro e w2 ⟨rfl, hk2⟩))
          all_goals
            have hK9 : Kept W8 w2 := (by repeat (first | assumption | exact Kept.refl _ | apply Kept.drew | apply Kept.drewN | apply Kept.alloc | refine Kept.trans ?_ (by assumption)))
            clear w0 w1 x0 x1 y0 y1
            go_wp2_with fail
            go_roundg (L - (t + 1))
            case measure => omega
            case rel => exact ⟨t + 1, by omega, rfl, by go_num, by (rw [hm1.out]; congr 1; omega), by rw [hs1.out], hK8.trans hK9⟩
        · go_region_held3 (fun w' => w'.cell? ⟨b3, o3 + t * 2, none⟩ = some (.int .i64 p) ∧ w'.cell? ⟨b3, o3 + t * 2 + 1, none⟩ = some (.int .i64 q) ∧ w'.cell? ⟨b1, o1 + p * 2, none⟩ = some (.int .i64 (X p)) ∧ w'.cell? ⟨b1, o1 + p * 2 + 1, none⟩ = some (.int .i64 (Y p)) ∧ w'.cell? ⟨b2, o2 + q * 2, none⟩ = some (.int .i64 (U q)) ∧ w'.cell? ⟨b2, o2 + q * 2 + 1, none⟩ = some (.int .i64 (V q)) ∧ Kept W8 w')
            (first | exact keep6 w0 w1 x0 x1 y0 y1 (by repeat (first | assumption | exact Kept.refl _ | apply Kept.drew | apply Kept.drewN | apply Kept.alloc | refine Kept.trans ?_ (by assumption))))
            (first | (go_at_call 51; refine (far_any _ (X p) (Y p) (U q) (V q) (HI1.out p ham).1 (HI1.out p ham).2 (HI2.out q hbn).1 (HI2.out q hbn).2).mono ?_; rw [← HD.out]; rintro e w2 ⟨rfl, hk2⟩))
          all_goals
            have hK9 : Kept W8 w2 := (by repeat (first | assumption | exact Kept.refl _ | apply Kept.drew | apply Kept.drewN | apply Kept.alloc | refine Kept.trans ?_ (by assumption)))
            clear w0 w1 x0 x1 y0 y1
            go_wp2_with fail
            go_roundg (L - (t + 1))
            case measure => omega
            case rel => exact ⟨t + 1, by omega, rfl, by go_num, by (rw [hm1.out]; congr 1; omega), by rw [hs1.out], hK8.trans hK9⟩
      · obtain ⟨dx, hdx⟩ : ∃ dx, (p : Int) - a u = dx := ⟨_, rfl⟩
        obtain ⟨dy, hdy⟩ : ∃ dy, (q : Int) - b u = dy := ⟨_, rfl⟩
        obtain ⟨v1, v2, v3, v4, v5⟩ := HST.out u hu
        rw [hdx] at v1 v2 v5
        rw [hdy] at v3 v4 v5
        obtain ⟨c2, c3⟩ := HC3.out u (by omega)
        have t2 := hK.cellSome c2
        have t3 := hK.cellSome c3
        have hau := HW.out.am u (by have := HL.out; omega)
        have hbu := HW.out.bn u (by have := HL.out; omega)
        have ew : IntKind.i64.wrap ((t : Int) - 1) = (u : Int) := by rw [show (t : Int) - 1 = (u : Int) by omega]; exact IntWalk.i64_in _ (by omega)
        have s7 : (u : Int) < L := by omega
        have s8 : (0 : Int) ≤ u := by omega
        have s9 : (0 : Int) < (t : Int) := by omega
        have m1 : ¬ dx < 0 := by omega
        have m2 : ¬ 1 < dx := by omega
        have m3 : ¬ dy < 0 := by omega
        have m4 : ¬ 1 < dy := by omega
        have m5 : (dx + dy == 0) = false := by simpa using v5
        obtain ⟨au, HAU⟩ : ∃ au, Hid (au = a u) := ⟨_, rfl⟩
        obtain ⟨bu, HBU⟩ : ∃ bu, Hid (bu = b u) := ⟨_, rfl⟩
        rw [← HAU.out] at t2 hau hdx
        rw [← HBU.out] at t3 hbu hdy
        clear c2 c3 v5
        go_wp2_with fail
        go_quiet (fail)
        go_wp2_with fail
        have hK8 : Kept w (wr.drewN nq) := hK.drewN _
        clear t0 t1 t2 t3 hK m1 m2 m3 m4 m5 hdx hdy
        generalize wr.drewN nq = W8 at *
        obtain ⟨e0, e1⟩ := HC1.out p ham
        obtain ⟨e2, e3⟩ := HC2.out q hbn
        have x0 := hK8.cellSome e0
        have x1 := hK8.cellSome e1
        have y0 := hK8.cellSome e2
        have y1 := hK8.cellSome e3
        have w0 := hK8.cellSome c0
        have w1 := hK8.cellSome c1
        clear e0 e1 e2 e3 c0 c1
        by_cases hmx : mm < d
        · go_region_held3 (fun w' => w'.cell? ⟨b3, o3 + t * 2, none⟩ = some (.int .i64 p) ∧ w'.cell? ⟨b3, o3 + t * 2 + 1, none⟩ = some (.int .i64 q) ∧ w'.cell? ⟨b1, o1 + p * 2, none⟩ = some (.int .i64 (X p)) ∧ w'.cell? ⟨b1, o1 + p * 2 + 1, none⟩ = some (.int .i64 (Y p)) ∧ w'.cell? ⟨b2, o2 + q * 2, none⟩ = some (.int .i64 (U q)) ∧ w'.cell? ⟨b2, o2 + q * 2 + 1, none⟩ = some (.int .i64 (V q)) ∧ Kept W8 w')
            (first | exact keep6 w0 w1 x0 x1 y0 y1 (by repeat (first | assumption | exact Kept.refl _ | apply Kept.drew | apply Kept.drewN | apply Kept.alloc | refine Kept.trans ?_ (by assumption))))
            (first | (go_at_call 51; refine (far_any _ (X p) (Y p) (U q) (V q) (HI1.out p ham).1 (HI1.out p ham).2 (HI2.out q hbn).1 (HI2.out q hbn).2).mono ?_; rw [← HD.out]; rintro e w2 ⟨rfl, hk2⟩))
          all_goals
            have hK9 : Kept W8 w2 := (by repeat (first | assumption | exact Kept.refl _ | apply Kept.drew | apply Kept.drewN | apply Kept.alloc | refine Kept.trans ?_ (by assumption)))
            clear w0 w1 x0 x1 y0 y1
            go_wp2_with fail
            go_roundg (L - (t + 1))
            case measure => omega
            case rel => exact ⟨t + 1, by omega, rfl, by go_num, by (rw [hm1.out]; congr 1; omega), by rw [hs1.out], hK8.trans hK9⟩
        · go_region_held3 (fun w' => w'.cell? ⟨b3, o3 + t * 2, none⟩ = some (.int .i64 p) ∧ w'.cell? ⟨b3, o3 + t * 2 + 1, none⟩ = some (.int .i64 q) ∧ w'.cell? ⟨b1, o1 + p * 2, none⟩ = some (.int .i64 (X p)) ∧ w'.cell? ⟨b1, o1 + p * 2 + 1, none⟩ = some (.int .i64 (Y p)) ∧ w'.cell? ⟨b2, o2 + q * 2, none⟩ = some (.int .i64 (U q)) ∧ w'.cell? ⟨b2, o2 + q * 2 + 1, none⟩ = some (.int .i64 (V q)) ∧ Kept W8 w')
            (first | exact keep6 w0 w1 x0 x1 y0 y1 (by repeat (first | assumption | exact Kept.refl _ | apply Kept.drew | apply Kept.drewN | apply Kept.alloc | refine Kept.trans ?_ (by assumption))))
            (first | (go_at_call 51; refine (far_any _ (X p) (Y p) (U q) (V q) (HI1.out p ham).1 (HI1.out p ham).2 (HI2.out q hbn).1 (HI2.out q hbn).2).mono ?_; rw [← HD.out]; rintro e w2 ⟨rfl, hk2⟩))
          all_goals
            have hK9 : Kept W8 w2 := (by repeat (first | assumption | exact Kept.refl _ | apply Kept.drew | apply Kept.drewN | apply Kept.alloc | refine Kept.trans ?_ (by assumption)))
            clear w0 w1 x0 x1 y0 y1
            go_wp2_with fail
            go_roundg (L - (t + 1))
            case measure => omega
            case rel => exact ⟨t + 1, by omega, rfl, by go_num, by (rw [hm1.out]; congr 1; omega), by rw [hs1.out], hK8.trans hK9⟩
    · obtain rfl : t = L := by omega
      obtain ⟨u, hu⟩ : ∃ u, u = t - 1 := ⟨_, rfl⟩
      obtain ⟨c0, c1⟩ := HC3.out 0 (by omega)
      obtain ⟨c2, c3⟩ := HC3.out u (by omega)
      have eT := eTT.out
      rw [← hu] at eT
      have p0 := pair_eqI _ _ _ _ e00.out.1 e00.out.2
      have p1 := pair_eqI _ _ _ _ eT.1 eT.2
      obtain ⟨a0, HA0⟩ : ∃ a0, Hid (a0 = a 0) := ⟨_, rfl⟩
      obtain ⟨b0, HB0⟩ : ∃ b0, Hid (b0 = b 0) := ⟨_, rfl⟩
      obtain ⟨au, HAU⟩ : ∃ au, Hid (au = a u) := ⟨_, rfl⟩
      obtain ⟨bu, HBU⟩ : ∃ bu, Hid (bu = b u) := ⟨_, rfl⟩
      rw [← HA0.out] at c0 p0
      rw [← HB0.out] at c1 p0
      rw [← HAU.out] at c2 p1
      rw [← HBU.out] at c3 p1
      have t0 := hK.cellSome c0
      have t1 := hK.cellSome c1
      have t2 := hK.cellSome c2
      have t3 := hK.cellSome c3
      simp only [Nat.zero_mul, Nat.add_zero] at t0 t1
      have ew : IntKind.i64.wrap ((t : Int) - 1) = (u : Int) := by rw [show (t : Int) - 1 = (u : Int) by omega]; exact IntWalk.i64_in _ (by omega)
      have s1 : (u : Int) < t := by omega
      have s2 : (0 : Int) ≤ u := by omega
      have s3 : (0 : Int) < (t : Int) := by omega
      have s4 : 0 < t := by omega
      clear c0 c1 c2 c3 eT hu
      obtain ⟨mm, HM⟩ : ∃ mm, Hid (mm = cumM (fun t => distF X Y U V (a t) (b t)) t) := ⟨_, rfl⟩
      obtain ⟨ss, HS⟩ : ∃ ss, Hid (ss = cumS (fun t => distF X Y U V (a t) (b t)) t) := ⟨_, rfl⟩
      rw [← HM.out, ← HS.out]
      go_wp2_with fail
      go_quiet (fail)
      go_wp2_with fail
      go_ret3
      exact ⟨by rw [← HM.out, ← HS.out]; rfl, hK.drewN _⟩
end Go.Proofs.Ytfmcjbddbomohaa
