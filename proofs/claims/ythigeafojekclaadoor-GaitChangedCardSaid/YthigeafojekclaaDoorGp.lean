/-
  Package gait: divisor, quotient, Merit.
-/
import Derived.Test.YthigeafojekclaaDoorGi
namespace Go.Proofs.YthigeafojekclaaDoor
open Go.RowKit Go.Deep Go.Shelf

set_option maxRecDepth 100000 in
theorem divisor_any (w : World) (x y : Nat) (hx : x < 1000000000000000000) (hy : y < 1000000000000000000) : Calls Tryd.prog 38 #[.int .i64 x, .int .i64 y] w fun e w' => e = .returned (.int .i64 ((Nat.gcd y x : Nat) : Int)) ∧ Quiet w w' := by
  go_enter Tryd.func38, Tryd.ntmps38
  go_wp2_with fail
  go_loopg [0, 1] (y + 1) (fun g s0 s1 wr => ∃ a b : Nat, g = b + 1 ∧ s0 = .int .i64 a ∧ s1 = .int .i64 b ∧ Quiet w wr ∧ a < 1000000000000000000 ∧ b < 1000000000000000000 ∧ Hid (Nat.gcd b a = Nat.gcd y x))
  case atStart => exact ⟨x, y, rfl, rfl, rfl, Quiet.refl w, hx, hy, rfl⟩
  case round =>
    obtain ⟨a, b, rfl, rfl, rfl, hQ, ha, hb, hg⟩ := hrel
    by_cases h0 : b = 0
    · subst h0
      go_wp2_with fail
      go_ret
      exact ⟨ret_int (by rw [← hg.out, Nat.gcd_zero_left]), hQ⟩
    · have n0 : ¬ (b : Int) = 0 := by omega
      have n1 : ((b : Int) != 0) = true := by simp; omega
      obtain ⟨r, HR⟩ : ∃ r : Nat, Hid (r = a % b) := ⟨_, rfl⟩
      have hr : r < b := by rw [HR.out]; exact Nat.mod_lt _ (by omega)
      have e1 : Int.tmod (a : Int) (b : Int) = (r : Int) := by rw [HR.out]; exact (Int.ofNat_tmod a b).symm
      have hg2 : Hid (Nat.gcd r b = Nat.gcd y x) := by rw [HR.out, ← hg.out]; exact (Nat.gcd_rec b a).symm
      clear HR hg
      go_wp2_with fail
      go_quiet (fail)
      go_wp2_with fail
      go_roundg (r + 1)
      case measure => omega
      case rel => exact ⟨b, r, rfl, rfl, rfl, hQ.drewN _, hb, by omega, hg2.out⟩
/-- a number as a text -/
def decS (i : Nat) : ByteArray := ⟨(Lib.decDigits i).toArray⟩
/-- strconv.Itoa of a number, in every world in which what lay lies unturned -/
def ItoaOk (w : World) (i : Nat) : Prop := ∀ W, Kept w W → Calls Tryd.prog 39 #[.int .i64 i] W fun e w' => e = .returned (.string (decS i)) ∧ Kept W w'
theorem ItoaOk.small (w : World) (i : Nat) (hi : i < 100) : ItoaOk w i := fun W _ => by
  refine Calls.mono (show Calls Tryd.prog 39 #[.int .i64 i] W _ from Any.strconv_Itoa_small { Tryd.laysM171 with } i hi W) ?_
  rintro e w' ⟨rfl, rfl⟩
  exact ⟨rfl, Kept.refl _⟩
/-- a quotient as a text -/
def quoS (a b : Nat) : ByteArray := if b = Nat.gcd b a then decS (a / Nat.gcd b a) else decS (a / Nat.gcd b a) ++ (⟨#[47]⟩ ++ decS (b / Nat.gcd b a))
theorem nDigits_le : ∀ (k u : Nat), u < 10 ^ (k + 1) → Lib.nDigits u ≤ k + 1
  | 0, u, h => by rw [Lib.nDigits_small (by simpa using h)]; omega
  | k + 1, u, h => by
    by_cases h1 : u < 10
    · rw [Lib.nDigits_small h1]; omega
    · rw [Lib.nDigits_big h1]
      have := nDigits_le k (u / 10) (by rw [Nat.pow_succ] at h; omega)
      omega
theorem decS_size (i : Nat) (hi : i < 1000000000000000000) : (decS i).size ≤ 18 := by
  show (Lib.decDigits i).toArray.size ≤ 18
  rw [List.size_toArray, Lib.decDigits_length]
  exact nDigits_le 17 i hi
set_option maxRecDepth 100000 in
set_option maxHeartbeats 4000000 in
theorem quotient_any (w : World) (a b : Nat) (hb : 0 < b) (ha2 : a < 1000000000000000000) (hb2 : b < 1000000000000000000) (I1 : ItoaOk w (a / Nat.gcd b a)) (I2 : ItoaOk w (b / Nat.gcd b a)) :
    Calls Tryd.prog 25 #[.int .i64 a, .int .i64 b] w fun e w' => e = .returned (.string (quoS a b)) ∧ Kept w w' := by
  have DV := Lib.hid (fun W => divisor_any W a b ha2 hb2)
  have hq : Hid (quoS a b = if b = Nat.gcd b a then decS (a / Nat.gcd b a) else decS (a / Nat.gcd b a) ++ (⟨#[47]⟩ ++ decS (b / Nat.gcd b a))) := rfl
  have hgpos : 0 < Nat.gcd b a := Nat.gcd_pos_of_pos_left _ hb
  have hgb : Nat.gcd b a ≤ b := Nat.gcd_le_left _ hb
  obtain ⟨g, HG⟩ : ∃ g, Hid (g = Nat.gcd b a) := ⟨_, rfl⟩
  rw [← HG.out] at DV hq hgpos hgb I1 I2
  have e1 : Int.tdiv (a : Int) (g : Int) = ((a / g : Nat) : Int) := (Int.ofNat_tdiv a g).symm
  have e2 : Int.tdiv (b : Int) (g : Int) = ((b / g : Nat) : Int) := (Int.ofNat_tdiv b g).symm
  have z1 := decS_size (a / g) (Nat.lt_of_le_of_lt (Nat.div_le_self _ _) ha2)
  have z2 := decS_size (b / g) (Nat.lt_of_le_of_lt (Nat.div_le_self _ _) hb2)
  have l1 : a / g < 1000000000000000000 := Nat.lt_of_le_of_lt (Nat.div_le_self _ _) ha2
  have l2 : b / g < 1000000000000000000 := Nat.lt_of_le_of_lt (Nat.div_le_self _ _) hb2
  obtain ⟨x, HX⟩ : ∃ x, Hid (x = a / g) := ⟨_, rfl⟩
  obtain ⟨y, HY⟩ : ∃ y, Hid (y = b / g) := ⟨_, rfl⟩
  rw [← HX.out] at e1 z1 l1 hq I1
  rw [← HY.out] at e2 z2 l2 hq I2
  have n0 : ¬ (g : Int) = 0 := by omega
  have J1 := Lib.hid I1
  have J2 := Lib.hid I2
  unfold ItoaOk at J1 J2
  generalize decS x = X at *
  generalize decS y = Y at *
  clear I1 I2 HX HY HG ha2 hb2
  by_cases h1 : b = g
  · have d1 : ((b : Int) != (g : Int)) = false := by simp [h1]
    rw [if_pos h1] at hq
    rw [hq.out]
    clear h1
    go_enter Tryd.func25, Tryd.ntmps25
    go_wp2_with (first | (go_at_call 38; refine (DV.out _).mono ?_; rintro e w1 ⟨rfl, hq1⟩) | (go_at_call 39; refine (J1.out _ hq1.kept).mono ?_; rintro e w2 ⟨rfl, hk2⟩))
    go_ret
    exact ⟨rfl, hq1.kept.trans hk2⟩
  · have d1 : ((b : Int) != (g : Int)) = true := by simp; omega
    rw [if_neg h1] at hq
    rw [hq.out]
    clear h1
    go_enter Tryd.func25, Tryd.ntmps25
    go_wp2_with (first | (go_at_call 38; refine (DV.out _).mono ?_; rintro e w1 ⟨rfl, hq1⟩) | (go_at_call 39; first | (refine (J1.out _ hq1.kept).mono ?_; rintro e w2 ⟨rfl, hk2⟩) | (refine (J2.out _ (hq1.kept.trans hk2)).mono ?_; rintro e w3 ⟨rfl, hk3⟩)))
    go_ret
    exact ⟨rfl, (hq1.kept.trans hk2).trans hk3⟩
def MeritAns (w : World) (s : ByteArray) (m : Int) (e : Ending) (w' : World) : Prop :=
  Kept w w' ∧ if rowC s = 0 then (if m = 0 then e = .returned (.tuple #[.string ⟨#[]⟩, .int .i64 5]) else e = .returned (.tuple #[.string (quoS (s.size * s.size) (2 * m.toNat)), .int .i64 0])) else e = .returned (.tuple #[.string ⟨#[]⟩, .int .i64 (rowC s)])
/-- the sum of the squares of all likenesses but the first one -/
def sqS (s : ByteArray) : Int := sumZ (fun k => likeS s s.size (k + 1) * likeS s s.size (k + 1)) (s.size - 1)
theorem sqS_row (n : Nat) (p : Nat → Bool) : sqS (rowS n p) = sqN n p := by
  unfold sqS sqN
  rw [rowS_size]
  exact sumZ_congr fun k hk => by rw [likeS_row n (k + 1) p (by omega)]
set_option maxRecDepth 100000 in
set_option maxHeartbeats 4000000 in
theorem Merit_any (w : World) (s : ByteArray) (hs : s.size ≤ 9223372036854775807)
    (HI : rowC s = 0 → sqS s ≠ 0 → ItoaOk w (s.size * s.size / Nat.gcd (2 * (sqS s).toNat) (s.size * s.size)) ∧ ItoaOk w (2 * (sqS s).toNat / Nat.gcd (2 * (sqS s).toNat) (s.size * s.size))) :
    Calls Tryd.prog 8 #[.string s] w (MeritAns w s (sqS s)) := by
  have RE := Lib.hid (rows_one w s hs)
  by_cases h0 : rowC s = 0
  · have hg := rowC_good h0
    have H0 := Lib.hid h0
    have LK := Lib.hid (fun W => likenesses_any W s s.size rfl (by omega))
    rw [h0] at RE
    unfold RowPost at LK
    have hb : ∀ k, -100 ≤ likeS s s.size k ∧ likeS s s.size k ≤ 100 := fun k => by
      have := lkS_bound (s.extract 0 (s.size - k)) (s.extract k s.size) (s.size - k)
      unfold likeS
      omega
    have hq : Hid (sqS s = sumZ (fun k => likeS s s.size (k + 1) * likeS s s.size (k + 1)) (s.size - 1)) := rfl
    have hqb : 0 ≤ sqS s ∧ sqS s ≤ 10000 * 100 := by
      rw [hq.out]
      have h1 : ∀ n : Nat, 0 ≤ sumZ (fun k => likeS s s.size (k + 1) * likeS s s.size (k + 1)) n ∧ sumZ (fun k => likeS s s.size (k + 1) * likeS s s.size (k + 1)) n ≤ 10000 * n := fun n => by
        induction n with
        | zero => simp [sumZ]
        | succ n ih =>
          have := sq_bound (hb (n + 1)).1 (hb (n + 1)).2
          simp only [sumZ]
          omega
      have := h1 (s.size - 1)
      omega
    have HI2 := Lib.hid (HI h0)
    have QU := Lib.hid (fun (W : World) (hk : Kept w W) (h : sqS s ≠ 0) => quotient_any W (s.size * s.size) (2 * (sqS s).toNat) (by omega) (by have := Nat.mul_le_mul hg.2.1 hg.2.1; omega) (by omega) (fun W' h' => (HI2.out h).1 W' (hk.trans h')) (fun W' h' => (HI2.out h).2 W' (hk.trans h')))
    have hfin : Hid (∀ e w', Kept w w' → (if sqS s = 0 then e = .returned (.tuple #[.string ⟨#[]⟩, .int .i64 5]) else e = .returned (.tuple #[.string (quoS (s.size * s.size) (2 * (sqS s).toNat)), .int .i64 0])) → MeritAns w s (sqS s) e w') := fun e w' hk h => ⟨hk, by rw [if_pos H0.out]; exact h⟩
    obtain ⟨q, HQ⟩ : ∃ q, Hid (q = (sqS s).toNat) := ⟨_, rfl⟩
    have hqi : sqS s = (q : Int) := by rw [HQ.out]; omega
    rw [hqi] at hq hqb hfin ⊢
    have hq1 : s.size = 1 → q = 0 := fun h => by
      have := hq.out
      rw [h] at this
      simp [sumZ] at this
      omega
    have hq2 : (q : Int) ≤ 1000000 := by omega
    have QU2 := Lib.hid (fun (W : World) (hk : Kept w W) (h : q ≠ 0) => show Calls Tryd.prog 25 #[.int .i64 ((s.size : Int) * (s.size : Int)), .int .i64 (2 * (q : Int))] W fun e w' => e = .returned (.string (quoS (s.size * s.size) (2 * q))) ∧ Kept W w' by
      have := QU.out W hk (by rw [hqi]; omega)
      rw [← HQ.out] at this
      simpa using this)
    simp only [Int.toNat_natCast] at hfin
    have SQ := Lib.hid (fun (W : World) (v : Value) (h : IntsAt W v (s.size - 1) (fun k => likeS s s.size (k + 1))) => show Calls Tryd.prog 24 #[v] W fun e w' => e = .returned (.int .i64 q) ∧ W = w' by
      have := squares_any W v (s.size - 1) (fun k => likeS s s.size (k + 1)) h (by omega) (fun k _ => hb (k + 1))
      rw [← hq.out] at this
      exact this)
    generalize likeS s s.size = f at *
    have hsz1 : 1 ≤ s.size := hg.1
    have hsz2 : s.size ≤ 64 := hg.2.1
    have hnn : s.size * s.size ≤ 64 * 64 := Nat.mul_le_mul hsz2 hsz2
    have w1 : wrap64 ((s.size : Int) * (s.size : Int)) = (s.size : Int) * (s.size : Int) := by
      rw [show (s.size : Int) * (s.size : Int) = ((s.size * s.size : Nat) : Int) by simp]
      exact IntWalk.wrap64_in _ (by omega)
    have s1 : (1 : Int) ≤ (s.size : Int) := by omega
    clear hg h0 hb hq hqi QU HI HI2 HQ
    by_cases hone : s.size = 1
    · have HONE := Lib.hid hone
      have hemp := Lib.hid (fun (W : World) (r : Nat) => show IntsAt W (.slice (some ⟨r, 0, none⟩) 0 0) (s.size - 1) (fun k => f (k + 1)) from ⟨some ⟨r, 0, none⟩, r, 0, 0, by rw [HONE.out], fun _ => rfl, fun i hi => by have := HONE.out; omega⟩)
      have hq0 : q = 0 := hq1 hone
      have e2 : ((q : Int) == 0) = true := by simp [hq0]
      have hf := Lib.hid (fun (e : Ending) (w' : World) (hk : Kept w w') (h : e = .returned (.tuple #[.string ⟨#[]⟩, .int .i64 5])) => hfin.out e w' hk (by rw [if_pos (by omega)]; exact h))
      clear hq0 hq1 hfin QU2
      go_enter Tryd.func8, Tryd.ntmps8
      go_wp2_with (first | (go_at_call 21; refine RE.out.mono ?_; rintro e w1 ⟨rfl, hk1⟩) | (go_at_call 22; refine (LK.out _).mono ?_; rintro e w2 ⟨r, rfl, hr1, hk2, hr2⟩) | (go_at_call 24; refine (SQ.out _ _ (hemp.out _ _)).mono ?_; rintro e w3 ⟨rfl, rfl⟩) | (go_at_call 25; refine (QU2.out _ (hk1.trans hk2) HQ0.out).mono ?_; rintro e w4 ⟨rfl, hk4⟩))
      go_ret2
      exact hf.out _ _ (hk1.trans hk2) rfl
    · have hrest := Lib.hid (fun (W : World) (r : Nat) (hr : W.rowIs r 3 s.size (fun i => .int .i64 (f i))) => show IntsAt W (.slice (some ⟨r, 1, none⟩) (s.size - 1) (s.size - 1)) (s.size - 1) (fun k => f (k + 1)) from CellsAt.of_row1 (by rw [show s.size - 1 + 1 = s.size by omega]; exact hr))
      clear hq1
      by_cases hq0 : q = 0
      · have e2 : ((q : Int) == 0) = true := by simp [hq0]
        have hf := Lib.hid (fun (e : Ending) (w' : World) (hk : Kept w w') (h : e = .returned (.tuple #[.string ⟨#[]⟩, .int .i64 5])) => hfin.out e w' hk (by rw [if_pos (by omega)]; exact h))
        clear hq0 hfin QU2
        go_enter Tryd.func8, Tryd.ntmps8
        go_wp2_with (first | (go_at_call 21; refine RE.out.mono ?_; rintro e w1 ⟨rfl, hk1⟩) | (go_at_call 22; refine (LK.out _).mono ?_; rintro e w2 ⟨r, rfl, hr1, hk2, hr2⟩) | (go_at_call 24; refine (SQ.out _ _ (hrest.out _ _ hr2)).mono ?_; rintro e w3 ⟨rfl, rfl⟩) | (go_at_call 25; refine (QU2.out _ (hk1.trans hk2) HQ0.out).mono ?_; rintro e w4 ⟨rfl, hk4⟩))
        go_ret2
        exact hf.out _ _ (hk1.trans hk2) rfl
      · have e2 : ((q : Int) == 0) = false := by simp; omega
        have HQ0 := Lib.hid hq0
        have hf := Lib.hid (fun (e : Ending) (w' : World) (hk : Kept w w') (h : e = .returned (.tuple #[.string (quoS (s.size * s.size) (2 * q)), .int .i64 0])) => hfin.out e w' hk (by rw [if_neg (by omega)]; exact h))
        clear hq0 hfin
        go_enter Tryd.func8, Tryd.ntmps8
        go_wp2_with (first | (go_at_call 21; refine RE.out.mono ?_; rintro e w1 ⟨rfl, hk1⟩) | (go_at_call 22; refine (LK.out _).mono ?_; rintro e w2 ⟨r, rfl, hr1, hk2, hr2⟩) | (go_at_call 24; refine (SQ.out _ _ (hrest.out _ _ hr2)).mono ?_; rintro e w3 ⟨rfl, rfl⟩) | (go_at_call 25; refine (QU2.out _ (hk1.trans hk2) HQ0.out).mono ?_; rintro e w4 ⟨rfl, hk4⟩))
        go_ret2
        exact hf.out _ _ ((hk1.trans hk2).trans hk4) rfl
  · have H0 := Lib.hid h0
    have e1 : (rowC s != 0) = true := by simpa using h0
    obtain ⟨c, HC⟩ : ∃ c, Hid (c = rowC s) := ⟨_, rfl⟩
    rw [← HC.out] at RE e1
    clear h0
    go_enter Tryd.func8, Tryd.ntmps8
    go_wp2_with (first | (go_at_call 21; refine RE.out.mono ?_; rintro e w1 ⟨rfl, hk1⟩))
    go_ret2
    exact ⟨hk1, by rw [if_neg H0.out, ← HC.out]; rfl⟩
end Go.Proofs.YthigeafojekclaaDoor
