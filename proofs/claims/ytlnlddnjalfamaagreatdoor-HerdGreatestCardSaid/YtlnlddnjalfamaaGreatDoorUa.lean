/-
  The reference's numbers of any size: how they lie in memory.
-/
import Derived.Test.YtlnlddnjalfamaaGreatDoorIl
import Derived.Deep.RegionHeld
import Derived.RegionTactic
import Derived.Deep.RegionWith
import Derived.Test.YtlnlddnjalfamaaGreatDoorHm
import Derived.Laws.AppendOwnNone
namespace Go.Proofs.YtlnlddnjalfamaaGreatDoor.Num
open Go.RowKit Go.Deep

theorem own_form {w : World} {base e size : Nat} {v : Value} {n : Nat} {xs : List Value} (h : w.ownsRow base e size v n xs) : ∃ a cap, v = .slice a n cap ∧ (n ≤ cap) ∧ (a = none → cap = 0) ∧ cap ≤ maxLen ∧ (0 < n → ∃ g, a = some ⟨g, 0, none⟩ ∧ base ≤ g) := by
  rcases h.2 with ⟨rfl, rfl⟩ | ⟨g, cap, cur, rfl, hb, _, h1, h2, _⟩
  · exact ⟨none, 0, rfl, Nat.le_refl _, fun _ => rfl, Nat.zero_le _, fun h => absurd h (by omega)⟩
  · exact ⟨_, cap, rfl, h1, (fun h => by cases h), h2, fun _ => ⟨g, rfl, hb⟩⟩
theorem own_zeroT (W : World) (base : Nat) (t : TypeId) (s : Nat) (hb : base ≤ W.heap.size) : (W.alloc (.cells #[] t)).ownsRow base t s (.slice (some ⟨W.heap.size, 0, none⟩) 0 0) 0 [] := by
  refine ⟨by simp, .inr ⟨W.heap.size, 0, #[], rfl, hb, ?_, Nat.le_refl _, Nat.zero_le _, by simp, by simp⟩⟩
  rw [blk_alloc_new]
theorem own_none (W : World) (base : Nat) (t : TypeId) (s : Nat) : W.ownsRow base t s (.slice none 0 0) 0 [] := ⟨by simp, .inl ⟨rfl, rfl⟩⟩
theorem mkInts (m : Int) (n : Nat) (h : m = n) (hn : n ≤ 1000000) (w : World) :
    (Instr.makeSlice 27 (.int .i64 m) (.int .i64 m)).run Tryz.prog w = .ok (.slice (some ⟨w.heap.size, 0, none⟩) n n) (w.alloc (.cells (madeCells #[.int .i64 0] n) 3)) := by
  subst h
  exact run_make_row' (P := Tryz.prog) 27 3 (.int .i64 0) 8 Tryz.underlying27 Tryz.info3 rfl .i64 .i64 n (by omega) (by omega) w
def ints (f : Nat → Int) (k : Nat) : List Value := (List.range k).map (fun i => .int .i64 (f i))
theorem ints_get {f : Nat → Int} {k j : Nat} {u : Value} (h : (ints f k)[j]? = some u) : j < k ∧ u = .int .i64 (f j) := by
  unfold ints at h
  rw [List.getElem?_map] at h
  by_cases e : j < k
  · rw [List.getElem?_range e] at h
    exact ⟨e, by simpa using h.symm⟩
  · rw [List.getElem?_eq_none (by simpa using e)] at h; cases h
theorem ints_at {w : World} {base : Nat} {v : Value} {k : Nat} {f : Nat → Int} (h : w.ownsRow base 3 1 v k (ints f k)) : IntsAt w v k f := by
  have h1 := CellsAt.of_own h
  obtain ⟨a, b, o, cap, e, h2, h3⟩ := h1
  refine ⟨a, b, o, cap, e, h2, fun i hi => ?_⟩
  rw [h3 i hi]
  simp [ints, hi]
theorem ints_congr {f g : Nat → Int} {k : Nat} (h : ∀ i, i < k → f i = g i) : ints f k = ints g k := by
  unfold ints
  apply List.map_congr_left
  intro j hj
  rw [h j (List.mem_range.1 hj)]
/-- one number more -/
def snI (f : Nat → Int) (L : Nat) (x : Int) : Nat → Int := fun k => if k = L then x else f k
theorem ints_sn (f : Nat → Int) (L : Nat) (x : Int) : ints (snI f L x) (L + 1) = ints f L ++ [.int .i64 x] := by
  unfold ints
  rw [List.range_succ, List.map_append]
  congr 1
  · apply List.map_congr_left
    intro j hj
    have := List.mem_range.1 hj
    unfold snI
    rw [if_neg (by omega)]
  · simp [snI]
theorem ints_cell {w : World} {base g cap : Nat} {k : Nat} {f : Nat → Int} (h : w.ownsRow base 3 1 (.slice (some ⟨g, 0, none⟩) k cap) k (ints f k)) {i : Nat} (hi : i < k) : w.cell? ⟨g, i, none⟩ = some (.int .i64 (f i)) := by
  obtain ⟨a, b, o, c, e, h2, h3⟩ := ints_at h
  injection e with e1 e2 e3
  have := h2 (by omega)
  rw [← e1] at this
  injection this with this
  injection this with t1 t2
  subst t1
  subst t2
  have := h3 i hi
  rwa [Nat.zero_add] at this
theorem news_one (W : World) (x : Value) (t : TypeId) : ∀ (j : Nat) (u : Value), [x][j]? = some u → (W.alloc (.cells #[x] t)).cell? ((⟨W.heap.size, 0, none⟩ : Addr).add j) = some u := fun j u h => by
  have : j = 0 := by
    rcases Nat.lt_or_ge j 1 with e | e
    · omega
    · rw [List.getElem?_eq_none (by simp; omega)] at h; cases h
  subst this
  cases h
  rw [add_at]
  unfold World.cell?
  dsimp only
  rw [blk_alloc_new]
  rfl
/-- the value of the first k digits in base 10000, the least first -/
def valZ (D : Nat → Int) : Nat → Int
  | 0 => 0
  | k + 1 => valZ D k + D k * 10000 ^ k
def DigZ (D : Nat → Int) (n : Nat) : Prop := ∀ i, i < n → 0 ≤ D i ∧ D i < 10000
theorem pw_pos (k : Nat) : (0 : Int) < 10000 ^ k := Int.pow_pos (by omega)
theorem pw_succ (k : Nat) : (10000 : Int) ^ (k + 1) = 10000 ^ k * 10000 := Int.pow_succ 10000 k
theorem pw_le {i j : Nat} (h : i ≤ j) : (10000 : Int) ^ i ≤ 10000 ^ j := by
  obtain ⟨d, rfl⟩ : ∃ d, j = i + d := ⟨j - i, by omega⟩
  induction d with
  | zero => exact Int.le_refl _
  | succ d ih =>
    have h1 := ih (by omega)
    have h2 := pw_succ (i + d)
    have h3 := pw_pos (i + d)
    rw [show i + (d + 1) = i + d + 1 by omega, h2]
    omega
theorem valZ_congr {D E : Nat → Int} {n : Nat} (h : ∀ i, i < n → D i = E i) : valZ D n = valZ E n := by
  induction n with
  | zero => rfl
  | succ n ih => simp only [valZ]; rw [ih (fun i hi => h i (by omega)), h n (by omega)]
theorem valZ_bd {D : Nat → Int} {n : Nat} (h : DigZ D n) : 0 ≤ valZ D n ∧ valZ D n < 10000 ^ n := by
  induction n with
  | zero => simp [valZ]
  | succ n ih =>
    have h1 := ih (fun i hi => h i (by omega))
    have h2 := h n (by omega)
    have h3 := pw_succ n
    have h4 := pw_pos n
    simp only [valZ]
    rw [h3]
    have h5 : 0 ≤ D n * 10000 ^ n := Int.mul_nonneg h2.1 (by omega)
    have h6 : D n * 10000 ^ n ≤ 9999 * 10000 ^ n := Int.mul_le_mul_of_nonneg_right (by omega) (by omega)
    omega
theorem valZ_zeros {D : Nat → Int} {n : Nat} (d : Nat) (h : ∀ i, n ≤ i → i < n + d → D i = 0) : valZ D (n + d) = valZ D n := by
  induction d with
  | zero => rfl
  | succ d ih =>
    rw [← ih (fun i h1 h2 => h i h1 (by omega))]
    show valZ D (n + d) + D (n + d) * 10000 ^ (n + d) = _
    rw [h (n + d) (by omega) (by omega)]
    omega
/-- the top digit gives at least its power -/
theorem valZ_top {D : Nat → Int} {n : Nat} (h : DigZ D (n + 1)) (ht : D n ≠ 0) : 10000 ^ n ≤ valZ D (n + 1) := by
  have h1 := valZ_bd (D := D) (n := n) (fun i hi => h i (by omega))
  have h2 := h n (by omega)
  simp only [valZ]
  have h5 : 1 * 10000 ^ n ≤ D n * 10000 ^ n := Int.mul_le_mul_of_nonneg_right (by omega) (Int.le_of_lt (pw_pos n))
  omega
/-- two numbers, the digits above k being the same -/
theorem valZ_cmp {D E : Nat → Int} {k : Nat} (d : Nat) (hD : DigZ D (k + 1)) (hE : DigZ E (k + 1)) (h : ∀ i, k < i → i < k + 1 + d → D i = E i) (hlt : D k < E k) : valZ D (k + 1 + d) < valZ E (k + 1 + d) := by
  induction d with
  | zero =>
    have h1 := valZ_bd (D := D) (n := k) (fun i hi => hD i (by omega))
    have h2 := valZ_bd (D := E) (n := k) (fun i hi => hE i (by omega))
    show valZ D k + D k * 10000 ^ k < valZ E k + E k * 10000 ^ k
    have h5 : (D k + 1) * 10000 ^ k ≤ E k * 10000 ^ k := Int.mul_le_mul_of_nonneg_right (by omega) (Int.le_of_lt (pw_pos k))
    rw [Int.add_mul, Int.one_mul] at h5
    omega
  | succ d ih =>
    have h1 := ih (fun i a b => h i a (by omega))
    show valZ D (k + 1 + d) + D (k + 1 + d) * 10000 ^ (k + 1 + d) < valZ E (k + 1 + d) + E (k + 1 + d) * 10000 ^ (k + 1 + d)
    rw [h (k + 1 + d) (by omega) (by omega)]
    omega
/-- digits without zeros at the end -/
def LeanZ (D : Nat → Int) (n : Nat) : Prop := DigZ D n ∧ (0 < n → D (n - 1) ≠ 0)
theorem lean_len {D E : Nat → Int} {n m : Nat} (hD : DigZ D n) (hE : LeanZ E m) (h : n < m) : valZ D n < valZ E m := by
  obtain ⟨m, rfl⟩ : ∃ k, m = k + 1 := ⟨m - 1, by omega⟩
  have h1 := valZ_bd hD
  have h2 := valZ_top hE.1 (hE.2 (by omega))
  have h3 := pw_le (show n ≤ m by omega)
  omega
theorem lean_le {D : Nat → Int} {n k : Nat} (hD : LeanZ D n) (h : valZ D n < 10000 ^ k) : n ≤ k := by
  rcases Nat.lt_or_ge k n with h1 | h1
  · obtain ⟨n, rfl⟩ : ∃ k, n = k + 1 := ⟨n - 1, by omega⟩
    have h2 := valZ_top hD.1 (hD.2 (by omega))
    have h3 := pw_le (show k ≤ n by omega)
    omega
  · exact h1
theorem lean_zero {D : Nat → Int} {n : Nat} (hD : LeanZ D n) : valZ D n = 0 ↔ n = 0 := by
  constructor
  · intro h
    have := lean_le (k := 0) hD (by rw [h]; simp)
    omega
  · rintro rfl; rfl
/-- digits, and zeros above them -/
def extZ (D : Nat → Int) (n : Nat) : Nat → Int := fun i => if i < n then D i else 0
theorem extZ_le {D : Nat → Int} {n k : Nat} (h : n ≤ k) : valZ (extZ D n) k = valZ D n := by
  obtain ⟨d, rfl⟩ : ∃ d, k = n + d := ⟨k - n, by omega⟩
  rw [valZ_zeros d (fun i h1 _ => by unfold extZ; rw [if_neg (by omega)])]
  exact valZ_congr (fun i hi => by unfold extZ; rw [if_pos hi])
theorem valZ_upd {D : Nat → Int} {j : Nat} {v : Int} {n : Nat} (h : j < n) : valZ (fun i => if i = j then v else D i) n = valZ D n + (v - D j) * 10000 ^ j := by
  induction n with
  | zero => omega
  | succ n ih =>
    simp only [valZ]
    by_cases e : j = n
    · subst e
      rw [if_pos rfl, valZ_congr (E := D) (fun i hi => if_neg (by omega)), Int.sub_mul]
      omega
    · rw [if_neg (fun h => e h.symm), ih (by omega)]
      omega
/-- one digit of a sum -/
theorem plus_step {P V s c X Y a b : Int} (h : V + c * P = X + Y) (hs : s = c + a + b) : (V + (s % 10000) * P) + (s / 10000) * (P * 10000) = (X + a * P) + (Y + b * P) := by
  have h1 := Int.emod_add_mul_ediv s 10000
  generalize s % 10000 = r at *
  generalize s / 10000 = q at *
  subst hs
  have : c = r + 10000 * q - a - b := by omega
  subst this
  grind
/-- one digit of a difference -/
theorem less_step {P V c X Y a b s c' : Int} (h : V - c * P = X - Y) (hs : s = a - c - b + c' * 10000) : (V + s * P) - c' * (P * 10000) = (X + a * P) - (Y + b * P) := by
  subst hs
  grind
/-- one digit of a product with a digit -/
theorem mul_step {Pi Pk T T0 c a b vb o s : Int} (h : T + c * (Pi * Pk) = T0 + a * vb * Pi) (hs : s = o + c + a * b) : (T + (s % 10000 - o) * (Pi * Pk)) + (s / 10000) * (Pi * Pk * 10000) = T0 + a * (vb + b * Pk) * Pi := by
  have h1 := Int.emod_add_mul_ediv s 10000
  generalize s % 10000 = r at *
  generalize s / 10000 = q at *
  subst hs
  have : o = r + 10000 * q - c - a * b := by omega
  subst this
  grind
theorem mul_digit {o c a b : Int} (ho : 0 ≤ o ∧ o < 10000) (hc : 0 ≤ c ∧ c < 10000) (ha : 0 ≤ a ∧ a < 10000) (hb : 0 ≤ b ∧ b < 10000) : 0 ≤ o + c + a * b ∧ o + c + a * b < 100000000 := by
  have h1 : 0 ≤ a * b := Int.mul_nonneg ha.1 hb.1
  have h2 : a * b ≤ 9999 * 9999 := Int.mul_le_mul (by omega) (by omega) hb.1 (by omega)
  omega
def sgnZ (m : Bool) (x : Int) : Int := if m then -x else x
def cmpI (x y : Int) : Int := if x < y then -1 else if y < x then 1 else 0
def signI (x : Int) : Int := if x < 0 then -1 else if 0 < x then 1 else 0
theorem cmpI_lt {x y : Int} (h : x < y) : cmpI x y = -1 := if_pos h
theorem cmpI_gt {x y : Int} (h : y < x) : cmpI x y = 1 := by unfold cmpI; rw [if_neg (by omega), if_pos h]
theorem cmpI_eq {x y : Int} (h : x = y) : cmpI x y = 0 := by unfold cmpI; rw [if_neg (by omega), if_neg (by omega)]
theorem valZ_cmp2 {D E : Nat → Int} {n c : Nat} (hc : c < n) (hD : DigZ D n) (hE : DigZ E n) (h : ∀ i, c < i → i < n → D i = E i) (hlt : D c < E c) : valZ D n < valZ E n := by
  have := valZ_cmp (D := D) (E := E) (k := c) (n - (c + 1)) (fun i hi => hD i (by omega)) (fun i hi => hE i (by omega)) (fun i h1 h2 => h i h1 (by omega)) hlt
  rwa [show c + 1 + (n - (c + 1)) = n by omega] at this
set_option maxRecDepth 100000 in
set_option maxHeartbeats 2000000 in
theorem sizes_any (w : World) (va vb : Value) (la lb : Nat) (D E : Nat → Int) (ha : IntsAt w va la D) (hb : IntsAt w vb lb E) (hD : LeanZ D la) (hE : LeanZ E lb) (hla : la ≤ 1000000) (hlb : lb ≤ 1000000) :
    Calls Tryz.prog 111 #[va, vb] w fun e w' => e = .returned (.int .i64 (cmpI (valZ D la) (valZ E lb))) ∧ Quiet w w' := by
  obtain ⟨a, b, o, cap, rfl, ha, hc⟩ := ha
  obtain ⟨a2, b2, o2, cap2, rfl, ha2, hc2⟩ := hb
  have HD := Lib.hid hD
  have HE := Lib.hid hE
  have HC := Lib.hid hc
  have HC2 := Lib.hid hc2
  clear hD hE hc hc2
  by_cases hlen : la = lb
  · subst hlen
    obtain ⟨R, HR⟩ : ∃ R, Hid (R = cmpI (valZ D la) (valZ E la)) := ⟨_, rfl⟩
    rw [← HR.out]
    have z1 : ((la : Int) != (la : Int)) = false := by simp
    go_enter Tryz.func111, Tryz.ntmps111
    go_wp2
    go_loopg [5] la (fun g s5 wr => ∃ t : Nat, t ≤ la ∧ g = la - t ∧ s5 = .int .i64 ((la : Int) - 1 - t) ∧ Hid (∀ i, la - t ≤ i → i < la → D i = E i) ∧ Quiet w wr)
    case atStart => exact ⟨0, Nat.zero_le _, rfl, by go_num, (fun i h1 h2 => by omega), Quiet.refl _⟩
    case round =>
      obtain ⟨t, ht, rfl, rfl, hH, hq⟩ := hrel
      by_cases hlt : t < la
      · obtain ⟨c, hcc⟩ : ∃ c, c = la - 1 - t := ⟨_, rfl⟩
        have ec : (la : Int) - 1 - (t : Int) = (c : Int) := by omega
        obtain rfl := ha (by omega)
        obtain rfl := ha2 (by omega)
        have h1 := hq.kept.cellSome (HC.out c (by omega))
        have h2 := hq.kept.cellSome (HC2.out c (by omega))
        have s1 : (c : Int) < (la : Int) := by omega
        have s2 : (0 : Int) ≤ (c : Int) := by omega
        have HCC := Lib.hid hcc
        have hL : Hid (D c < E c → R = -1) := fun h => by rw [HR.out]; exact cmpI_lt (valZ_cmp2 (by omega) HD.out.1 HE.out.1 (fun i a b => hH.out i (by omega) b) h)
        have hG : Hid (E c < D c → R = 1) := fun h => by rw [HR.out]; exact cmpI_gt (valZ_cmp2 (by omega) HE.out.1 HD.out.1 (fun i a b => (hH.out i (by omega) b).symm) h)
        have hN : Hid (D c = E c → ∀ i, la - (t + 1) ≤ i → i < la → D i = E i) := fun h i a b => by
          by_cases e : i = c
          · subst e; exact h
          · exact hH.out i (by omega) b
        obtain ⟨x, HX⟩ : ∃ x, Hid (x = D c) := ⟨_, rfl⟩
        obtain ⟨y, HY⟩ : ∃ y, Hid (y = E c) := ⟨_, rfl⟩
        rw [← HX.out] at h1 hL hG hN
        rw [← HY.out] at h2 hL hG hN
        rw [ec]
        clear ha ha2 hcc ec
        go_wp2
        by_cases e1 : x < y
        · have d1 : decide (x < y) = true := decide_eq_true e1
          have hR := hL.out e1
          have HR2 := Lib.hid hR
          clear hR hL hG hN
          go_quiet (fail)
          go_wp2
          go_ret
          exact ⟨ret_int HR2.out.symm, by repeat (first | exact hq | apply Quiet.drewN | apply Quiet.drew)⟩
        · have d1 : decide (x < y) = false := decide_eq_false e1
          go_quiet (fail)
          go_wp2
          by_cases e2 : y < x
          · have d2 : decide (y < x) = true := decide_eq_true e2
            have hR := hG.out e2
            have HR2 := Lib.hid hR
            clear hR hL hG hN
            go_quiet (fail)
            go_wp2
            go_ret
            exact ⟨ret_int HR2.out.symm, by repeat (first | exact hq | apply Quiet.drewN | apply Quiet.drew)⟩
          · have d2 : decide (y < x) = false := decide_eq_false e2
            have hn := hN.out (by omega)
            have HN2 := Lib.hid hn
            have ec : (c : Int) - 1 = (la : Int) - 1 - ((t + 1 : Nat) : Int) := by have := HCC.out; omega
            have hEC := Lib.hid ec
            clear hL hG hN hn ec
            go_quiet (fail)
            go_wp2
            go_roundg (la - (t + 1))
            case measure => omega
            case rel => exact ⟨t + 1, by omega, rfl, by rw [← hEC.out], HN2.out, by repeat (first | exact hq | apply Quiet.drewN | apply Quiet.drew)⟩
      · have ec : (la : Int) - 1 - (t : Int) = -1 := by omega
        rw [ec]
        have hR : R = 0 := by rw [HR.out]; exact cmpI_eq (valZ_congr (fun i hi => hH.out i (by omega) hi))
        subst hR
        clear ec
        go_wp2
        go_ret
        exact ⟨rfl, hq⟩
  · have z1 : ((la : Int) != (lb : Int)) = true := by simp; omega
    by_cases hlt : la < lb
    · rw [cmpI_lt (lean_len HD.out.1 HE.out hlt)]
      have s1 : (la : Int) < (lb : Int) := by omega
      go_enter Tryz.func111, Tryz.ntmps111
      go_wp2
      go_ret
      exact ⟨rfl, Quiet.refl _⟩
    · rw [cmpI_gt (lean_len HE.out.1 HD.out (by omega))]
      have s1 : ¬ (la : Int) < (lb : Int) := by omega
      go_enter Tryz.func111, Tryz.ntmps111
      go_wp2
      go_ret
      exact ⟨rfl, Quiet.refl _⟩
def DigPost (w : World) (most : Nat) (x : Int) (e : Ending) (w' : World) : Prop := ∃ v n O, e = .returned v ∧ w'.ownsRow w.heap.size 3 1 v n (ints O n) ∧ DigZ O n ∧ valZ O n = x ∧ n ≤ most ∧ Kept w w'
set_option maxRecDepth 100000 in
set_option maxHeartbeats 4000000 in
theorem plus_any (w : World) (va vb : Value) (la lb : Nat) (D E : Nat → Int) (ha : IntsAt w va la D) (hb : IntsAt w vb lb E) (hD : DigZ D la) (hE : DigZ E lb) (hla : la ≤ 100000) (hlb : lb ≤ 100000) :
    Calls Tryz.prog 114 #[va, vb] w (DigPost w (max la lb + 1) (valZ D la + valZ E lb)) := by
  obtain ⟨a, b, o, cap, rfl, ha, hc⟩ := ha
  obtain ⟨a2, b2, o2, cap2, rfl, ha2, hc2⟩ := hb
  obtain ⟨i0, hi, hz0, hz1, hz2⟩ := info_parts Tryz.info3
  have HD := Lib.hid hD
  have HE := Lib.hid hE
  have HC := Lib.hid hc
  have HC2 := Lib.hid hc2
  have hO0 := own_zeroT w w.heap.size 3 1 (Nat.le_refl _)
  have hK0 : Kept w (w.alloc (.cells #[] 3)) := (Kept.refl w).alloc _
  have hsz0 : w.heap.size ≤ (w.alloc (.cells #[] 3)).heap.size := by simp
  have hO1 : (w.alloc (.cells #[] 3)).ownsRow w.heap.size 3 1 (.slice (some ⟨w.heap.size, 0, none⟩) 0 0) 0 (ints (fun _ => 0) 0) := hO0
  clear hD hE hc hc2 hO0
  go_enter Tryz.func114, Tryz.ntmps114
  go_wp2_with fail
  generalize w.alloc (.cells #[] 3) = W0 at *
  go_loopg [5, 6, 7] (max la lb + 1) (fun g s5 s6 s7 wr => ∃ (i : Nat) (c : Int) (O : Nat → Int), i ≤ max la lb + 1 ∧ g = max la lb + 1 - i ∧ s6 = .int .i64 c ∧ s7 = .int .i64 i ∧ 0 ≤ c ∧ c ≤ 1 ∧ Kept w wr ∧ wr.ownsRow w.heap.size 3 1 s5 i (ints O i) ∧ w.heap.size ≤ wr.heap.size ∧ Hid (DigZ O i) ∧ Hid (valZ O i + c * 10000 ^ i = valZ (extZ D la) i + valZ (extZ E lb) i) ∧ Hid (i ≤ max la lb ∨ c = 0))
  case atStart => exact ⟨0, 0, fun _ => 0, by omega, rfl, rfl, rfl, by omega, by omega, hK0, hO1, hsz0, (fun i h => by omega), (by show valZ _ 0 + _ = _; simp [valZ]), Or.inl (by omega)⟩
  case round =>
    obtain ⟨i, c, O, hi2, rfl, rfl, rfl, c0, c1, hK, hO, hsz, hG, hV, hE2⟩ := hrel
    clear hK0 hO1 hsz0
    obtain ⟨oa, ocap, rfl, _⟩ := own_form hO
    have s0 : (0 : Int) ≤ (i : Int) := by omega
    by_cases hA : i < la
    · by_cases hB : i < lb
      · skip
        obtain rfl := ha (by omega)
        have t1 := hK.cellSome (HC.out i hA)
        obtain rfl := ha2 (by omega)
        have t2 := hK.cellSome (HC2.out i hB)
        have s1 : (i : Int) < (la : Int) := by omega
        have s2 : (i : Int) < (lb : Int) := by omega
        have hxe : Hid (extZ D la i = D i) := by show _ = _; unfold extZ; rw [if_pos hA]
        have hye : Hid (extZ E lb i = E i) := by show _ = _; unfold extZ; rw [if_pos hB]
        have bx : 0 ≤ D i ∧ D i < 10000 := HD.out i hA
        have by' : 0 ≤ E i ∧ E i < 10000 := HE.out i hB
        obtain ⟨x, HX⟩ : ∃ x, Hid (x = D i) := ⟨_, rfl⟩
        rw [← HX.out] at t1 hxe bx
        obtain ⟨y, HY⟩ : ∃ y, Hid (y = E i) := ⟨_, rfl⟩
        rw [← HY.out] at t2 hye by'
        have hst := plus_step (P := 10000 ^ i) (s := c + x + y) (a := x) (b := y) hV.out (by omega)
        have hqb : 0 ≤ (c + x + y) / 10000 ∧ (c + x + y) / 10000 ≤ 1 := by omega
        have hrb : 0 ≤ (c + x + y) % 10000 ∧ (c + x + y) % 10000 < 10000 := by omega
        have h01 : True := by trivial
        have e1 : Int.tmod (c + x + y) 10000 = (c + x + y) % 10000 := Int.tmod_eq_emod_of_nonneg (by omega)
        have e2 : Int.tdiv (c + x + y) 10000 = (c + x + y) / 10000 := Int.tdiv_eq_ediv_of_nonneg (by omega)
        generalize (c + x + y) % 10000 = R at *
        generalize (c + x + y) / 10000 = Q at *
        have HST := Lib.hid hst
        have H01 := Lib.hid h01
        have hV2 : Hid (valZ (snI O i R) (i + 1) + Q * 10000 ^ (i + 1) = valZ (extZ D la) (i + 1) + valZ (extZ E lb) (i + 1)) := by
          show _ = _
          have g1 : valZ (snI O i R) i = valZ O i := valZ_congr (fun k hk => by unfold snI; rw [if_neg (by omega)])
          have g2 : snI O i R i = R := by unfold snI; rw [if_pos rfl]
          simp only [valZ, g1, g2, hxe.out, hye.out, pw_succ]
          exact HST.out
        have hG2 : Hid (DigZ (snI O i R) (i + 1)) := fun k hk => by
          unfold snI
          by_cases e : k = i
          · rw [if_pos e]; exact hrb
          · rw [if_neg e]; exact hG.out k (by omega)
        clear hst h01 hxe hye hV
        go_wp2_with (first | (at_builtin; refine wpList_append_own _ rfl _ _ 27 rfl w.heap.size 3 i0 (.int .i64 0) 1 8 Tryz.underlying27 hi hz0 hz1 hz2 rfl (by decide) _ _ _ rfl (hO.alloc _) ⟨wr.heap.size, 0, none⟩ 1 1 [.int .i64 R] rfl rfl (news_one _ _ _) ?c2 ?c3 ?c4 ?c5 ?_))
        case c2 => simp [Value.oneCell']
        case c3 => unfold maxLen; omega
        case c4 => omega
        case c5 => first | omega | (simp; omega)
        intro v' w2 hO3 hgr _
        have hX2 := grew_X hgr (hO.alloc (.cells #[.int .i64 R] 3))
        have hK2 : Kept w w2 := (hK.alloc _).step hX2 (fun i hi => hi)
        have hs2 : w.heap.size ≤ w2.heap.size := Kept.size hK2
        have hO4 : w2.ownsRow w.heap.size 3 1 v' (i + 1) (ints (snI O i R) (i + 1)) := by rw [ints_sn]; exact hO3
        have hend : Hid (i + 1 ≤ max la lb ∨ Q = 0) := Or.inl (by omega)
        clear hO3 hX2 hgr hK hO hsz HST H01
        go_wp2_with fail
        go_roundg (max la lb + 1 - (i + 1))
        case measure => omega
        case rel => exact ⟨i + 1, Q, snI O i R, by omega, rfl, rfl, by go_num, hqb.1, hqb.2, hK2, hO4, hs2, hG2.out, hV2.out, hend.out⟩
      · skip
        obtain rfl := ha (by omega)
        have t1 := hK.cellSome (HC.out i hA)
        have s1 : (i : Int) < (la : Int) := by omega
        have s2 : ¬ (i : Int) < (lb : Int) := by omega
        have hxe : Hid (extZ D la i = D i) := by show _ = _; unfold extZ; rw [if_pos hA]
        have hye : Hid (extZ E lb i = 0) := by show _ = _; unfold extZ; rw [if_neg hB]
        have bx : 0 ≤ D i ∧ D i < 10000 := HD.out i hA
        have by' : 0 ≤ (0 : Int) ∧ (0 : Int) < 10000 := ⟨by omega, by omega⟩
        obtain ⟨x, HX⟩ : ∃ x, Hid (x = D i) := ⟨_, rfl⟩
        rw [← HX.out] at t1 hxe bx
        have hst := plus_step (P := 10000 ^ i) (s := c + x) (a := x) (b := 0) hV.out (by omega)
        have hqb : 0 ≤ (c + x) / 10000 ∧ (c + x) / 10000 ≤ 1 := by omega
        have hrb : 0 ≤ (c + x) % 10000 ∧ (c + x) % 10000 < 10000 := by omega
        have h01 : True := by trivial
        have e1 : Int.tmod (c + x) 10000 = (c + x) % 10000 := Int.tmod_eq_emod_of_nonneg (by omega)
        have e2 : Int.tdiv (c + x) 10000 = (c + x) / 10000 := Int.tdiv_eq_ediv_of_nonneg (by omega)
        generalize (c + x) % 10000 = R at *
        generalize (c + x) / 10000 = Q at *
        have HST := Lib.hid hst
        have H01 := Lib.hid h01
        have hV2 : Hid (valZ (snI O i R) (i + 1) + Q * 10000 ^ (i + 1) = valZ (extZ D la) (i + 1) + valZ (extZ E lb) (i + 1)) := by
          show _ = _
          have g1 : valZ (snI O i R) i = valZ O i := valZ_congr (fun k hk => by unfold snI; rw [if_neg (by omega)])
          have g2 : snI O i R i = R := by unfold snI; rw [if_pos rfl]
          simp only [valZ, g1, g2, hxe.out, hye.out, pw_succ]
          exact HST.out
        have hG2 : Hid (DigZ (snI O i R) (i + 1)) := fun k hk => by
          unfold snI
          by_cases e : k = i
          · rw [if_pos e]; exact hrb
          · rw [if_neg e]; exact hG.out k (by omega)
        clear hst h01 hxe hye hV
        go_wp2_with (first | (at_builtin; refine wpList_append_own _ rfl _ _ 27 rfl w.heap.size 3 i0 (.int .i64 0) 1 8 Tryz.underlying27 hi hz0 hz1 hz2 rfl (by decide) _ _ _ rfl (hO.alloc _) ⟨wr.heap.size, 0, none⟩ 1 1 [.int .i64 R] rfl rfl (news_one _ _ _) ?c2 ?c3 ?c4 ?c5 ?_))
        case c2 => simp [Value.oneCell']
        case c3 => unfold maxLen; omega
        case c4 => omega
        case c5 => first | omega | (simp; omega)
        intro v' w2 hO3 hgr _
        have hX2 := grew_X hgr (hO.alloc (.cells #[.int .i64 R] 3))
        have hK2 : Kept w w2 := (hK.alloc _).step hX2 (fun i hi => hi)
        have hs2 : w.heap.size ≤ w2.heap.size := Kept.size hK2
        have hO4 : w2.ownsRow w.heap.size 3 1 v' (i + 1) (ints (snI O i R) (i + 1)) := by rw [ints_sn]; exact hO3
        have hend : Hid (i + 1 ≤ max la lb ∨ Q = 0) := Or.inl (by omega)
        clear hO3 hX2 hgr hK hO hsz HST H01
        go_wp2_with fail
        go_roundg (max la lb + 1 - (i + 1))
        case measure => omega
        case rel => exact ⟨i + 1, Q, snI O i R, by omega, rfl, rfl, by go_num, hqb.1, hqb.2, hK2, hO4, hs2, hG2.out, hV2.out, hend.out⟩
    · by_cases hB : i < lb
      · skip
        obtain rfl := ha2 (by omega)
        have t2 := hK.cellSome (HC2.out i hB)
        have s1 : ¬ (i : Int) < (la : Int) := by omega
        have s2 : (i : Int) < (lb : Int) := by omega
        have hxe : Hid (extZ D la i = 0) := by show _ = _; unfold extZ; rw [if_neg hA]
        have hye : Hid (extZ E lb i = E i) := by show _ = _; unfold extZ; rw [if_pos hB]
        have bx : 0 ≤ (0 : Int) ∧ (0 : Int) < 10000 := ⟨by omega, by omega⟩
        have by' : 0 ≤ E i ∧ E i < 10000 := HE.out i hB
        obtain ⟨y, HY⟩ : ∃ y, Hid (y = E i) := ⟨_, rfl⟩
        rw [← HY.out] at t2 hye by'
        have hst := plus_step (P := 10000 ^ i) (s := c + y) (a := 0) (b := y) hV.out (by omega)
        have hqb : 0 ≤ (c + y) / 10000 ∧ (c + y) / 10000 ≤ 1 := by omega
        have hrb : 0 ≤ (c + y) % 10000 ∧ (c + y) % 10000 < 10000 := by omega
        have h01 : True := by trivial
        have e1 : Int.tmod (c + y) 10000 = (c + y) % 10000 := Int.tmod_eq_emod_of_nonneg (by omega)
        have e2 : Int.tdiv (c + y) 10000 = (c + y) / 10000 := Int.tdiv_eq_ediv_of_nonneg (by omega)
        generalize (c + y) % 10000 = R at *
        generalize (c + y) / 10000 = Q at *
        have HST := Lib.hid hst
        have H01 := Lib.hid h01
        have hV2 : Hid (valZ (snI O i R) (i + 1) + Q * 10000 ^ (i + 1) = valZ (extZ D la) (i + 1) + valZ (extZ E lb) (i + 1)) := by
          show _ = _
          have g1 : valZ (snI O i R) i = valZ O i := valZ_congr (fun k hk => by unfold snI; rw [if_neg (by omega)])
          have g2 : snI O i R i = R := by unfold snI; rw [if_pos rfl]
          simp only [valZ, g1, g2, hxe.out, hye.out, pw_succ]
          exact HST.out
        have hG2 : Hid (DigZ (snI O i R) (i + 1)) := fun k hk => by
          unfold snI
          by_cases e : k = i
          · rw [if_pos e]; exact hrb
          · rw [if_neg e]; exact hG.out k (by omega)
        clear hst h01 hxe hye hV
        go_wp2_with (first | (at_builtin; refine wpList_append_own _ rfl _ _ 27 rfl w.heap.size 3 i0 (.int .i64 0) 1 8 Tryz.underlying27 hi hz0 hz1 hz2 rfl (by decide) _ _ _ rfl (hO.alloc _) ⟨wr.heap.size, 0, none⟩ 1 1 [.int .i64 R] rfl rfl (news_one _ _ _) ?c2 ?c3 ?c4 ?c5 ?_))
        case c2 => simp [Value.oneCell']
        case c3 => unfold maxLen; omega
        case c4 => omega
        case c5 => first | omega | (simp; omega)
        intro v' w2 hO3 hgr _
        have hX2 := grew_X hgr (hO.alloc (.cells #[.int .i64 R] 3))
        have hK2 : Kept w w2 := (hK.alloc _).step hX2 (fun i hi => hi)
        have hs2 : w.heap.size ≤ w2.heap.size := Kept.size hK2
        have hO4 : w2.ownsRow w.heap.size 3 1 v' (i + 1) (ints (snI O i R) (i + 1)) := by rw [ints_sn]; exact hO3
        have hend : Hid (i + 1 ≤ max la lb ∨ Q = 0) := Or.inl (by omega)
        clear hO3 hX2 hgr hK hO hsz HST H01
        go_wp2_with fail
        go_roundg (max la lb + 1 - (i + 1))
        case measure => omega
        case rel => exact ⟨i + 1, Q, snI O i R, by omega, rfl, rfl, by go_num, hqb.1, hqb.2, hK2, hO4, hs2, hG2.out, hV2.out, hend.out⟩
      · by_cases hc0 : c = 0
        · have hval : Hid (valZ O i = valZ D la + valZ E lb) := by
            have := hV.out
            rw [extZ_le (by omega), extZ_le (by omega), hc0] at this
            show _ = _
            omega
          have s1 : ¬ (i : Int) < (la : Int) := by omega
          have s2 : ¬ (i : Int) < (lb : Int) := by omega
          have s3 : ¬ (0 : Int) < c := by omega
          go_wp2_with fail
          go_ret
          exact ⟨_, i, O, rfl, hO, hG.out, hval.out, hi2, hK⟩
        · have hi3 : i ≤ max la lb := by rcases hE2.out with h | h; exact h; omega
          have s1 : ¬ (i : Int) < (la : Int) := by omega
          have s2 : ¬ (i : Int) < (lb : Int) := by omega
          have hxe : Hid (extZ D la i = 0) := by show _ = _; unfold extZ; rw [if_neg hA]
          have hye : Hid (extZ E lb i = 0) := by show _ = _; unfold extZ; rw [if_neg hB]
          have bx : 0 ≤ (0 : Int) ∧ (0 : Int) < 10000 := ⟨by omega, by omega⟩
          have by' : 0 ≤ (0 : Int) ∧ (0 : Int) < 10000 := ⟨by omega, by omega⟩
          have hst := plus_step (P := 10000 ^ i) (s := c) (a := 0) (b := 0) hV.out (by omega)
          have hqb : 0 ≤ (c) / 10000 ∧ (c) / 10000 ≤ 1 := by omega
          have hrb : 0 ≤ (c) % 10000 ∧ (c) % 10000 < 10000 := by omega
          have h01 : (c) / 10000 = 0 := by omega
          have e1 : Int.tmod (c) 10000 = (c) % 10000 := Int.tmod_eq_emod_of_nonneg (by omega)
          have e2 : Int.tdiv (c) 10000 = (c) / 10000 := Int.tdiv_eq_ediv_of_nonneg (by omega)
          generalize (c) % 10000 = R at *
          generalize (c) / 10000 = Q at *
          have HST := Lib.hid hst
          have H01 := Lib.hid h01
          have hV2 : Hid (valZ (snI O i R) (i + 1) + Q * 10000 ^ (i + 1) = valZ (extZ D la) (i + 1) + valZ (extZ E lb) (i + 1)) := by
            show _ = _
            have g1 : valZ (snI O i R) i = valZ O i := valZ_congr (fun k hk => by unfold snI; rw [if_neg (by omega)])
            have g2 : snI O i R i = R := by unfold snI; rw [if_pos rfl]
            simp only [valZ, g1, g2, hxe.out, hye.out, pw_succ]
            exact HST.out
          have hG2 : Hid (DigZ (snI O i R) (i + 1)) := fun k hk => by
            unfold snI
            by_cases e : k = i
            · rw [if_pos e]; exact hrb
            · rw [if_neg e]; exact hG.out k (by omega)
          clear hst h01 hxe hye hV
          have s3 : (0 : Int) < c := by omega
          go_wp2_with (first | (at_builtin; refine wpList_append_own _ rfl _ _ 27 rfl w.heap.size 3 i0 (.int .i64 0) 1 8 Tryz.underlying27 hi hz0 hz1 hz2 rfl (by decide) _ _ _ rfl (hO.alloc _) ⟨wr.heap.size, 0, none⟩ 1 1 [.int .i64 R] rfl rfl (news_one _ _ _) ?c2 ?c3 ?c4 ?c5 ?_))
          case c2 => simp [Value.oneCell']
          case c3 => unfold maxLen; omega
          case c4 => omega
          case c5 => first | omega | (simp; omega)
          intro v' w2 hO3 hgr _
          have hX2 := grew_X hgr (hO.alloc (.cells #[.int .i64 R] 3))
          have hK2 : Kept w w2 := (hK.alloc _).step hX2 (fun i hi => hi)
          have hs2 : w.heap.size ≤ w2.heap.size := Kept.size hK2
          have hO4 : w2.ownsRow w.heap.size 3 1 v' (i + 1) (ints (snI O i R) (i + 1)) := by rw [ints_sn]; exact hO3
          have hend : Hid (i + 1 ≤ max la lb ∨ Q = 0) := Or.inr H01.out
          clear hO3 hX2 hgr hK hO hsz HST H01
          go_wp2_with fail
          go_roundg (max la lb + 1 - (i + 1))
          case measure => omega
          case rel => exact ⟨i + 1, Q, snI O i R, by omega, rfl, rfl, by go_num, hqb.1, hqb.2, hK2, hO4, hs2, hG2.out, hV2.out, hend.out⟩
set_option maxRecDepth 100000 in
set_option maxHeartbeats 4000000 in
theorem less_any (w : World) (va vb : Value) (la lb : Nat) (D E : Nat → Int) (ha : IntsAt w va la D) (hb : IntsAt w vb lb E) (hD : DigZ D la) (hE : DigZ E lb) (hla : la ≤ 100000) (hlb : lb ≤ la) (hle : valZ E lb ≤ valZ D la) :
    Calls Tryz.prog 113 #[va, vb] w (DigPost w la (valZ D la - valZ E lb)) := by
  obtain ⟨a, b, o, cap, rfl, ha, hc⟩ := ha
  obtain ⟨a2, b2, o2, cap2, rfl, ha2, hc2⟩ := hb
  obtain ⟨i0, hi, hz0, hz1, hz2⟩ := info_parts Tryz.info3
  have HD := Lib.hid hD
  have HE := Lib.hid hE
  have HC := Lib.hid hc
  have HC2 := Lib.hid hc2
  have HLE := Lib.hid hle
  have hO0 := own_zeroT w w.heap.size 3 1 (Nat.le_refl _)
  have hK0 : Kept w (w.alloc (.cells #[] 3)) := (Kept.refl w).alloc _
  have hsz0 : w.heap.size ≤ (w.alloc (.cells #[] 3)).heap.size := by simp
  have hO1 : (w.alloc (.cells #[] 3)).ownsRow w.heap.size 3 1 (.slice (some ⟨w.heap.size, 0, none⟩) 0 0) 0 (ints (fun _ => 0) 0) := hO0
  clear hD hE hc hc2 hO0 hle
  go_enter Tryz.func113, Tryz.ntmps113
  go_wp2_with fail
  generalize w.alloc (.cells #[] 3) = W0 at *
  go_loopg [5, 6, 7] la (fun g s5 s6 s7 wr => ∃ (i : Nat) (c : Int) (O : Nat → Int), i ≤ la ∧ g = la - i ∧ s6 = .int .i64 c ∧ s7 = .int .i64 i ∧ 0 ≤ c ∧ c ≤ 1 ∧ Kept w wr ∧ wr.ownsRow w.heap.size 3 1 s5 i (ints O i) ∧ w.heap.size ≤ wr.heap.size ∧ Hid (DigZ O i) ∧ Hid (valZ O i - c * 10000 ^ i = valZ D i - valZ (extZ E lb) i))
  case atStart => exact ⟨0, 0, fun _ => 0, by omega, rfl, rfl, rfl, by omega, by omega, hK0, hO1, hsz0, (fun i h => by omega), (by show valZ _ 0 - _ = _; simp [valZ])⟩
  case round =>
    obtain ⟨i, c, O, hi2, rfl, rfl, rfl, c0, c1, hK, hO, hsz, hG, hV⟩ := hrel
    clear hK0 hO1 hsz0
    obtain ⟨oa, ocap, rfl, _⟩ := own_form hO
    have s0 : (0 : Int) ≤ (i : Int) := by omega
    by_cases hA : i < la
    · obtain rfl := ha (by omega)
      have t1 := hK.cellSome (HC.out i hA)
      have s1 : (i : Int) < (la : Int) := by omega
      have bx := HD.out i hA
      obtain ⟨x, HX⟩ : ∃ x, Hid (x = D i) := ⟨_, rfl⟩
      rw [← HX.out] at t1 bx
      by_cases hB : i < lb
      · by_cases hneg : x - c - (E i) < 0
        · skip
          obtain rfl := ha2 (by omega)
          have t2 := hK.cellSome (HC2.out i hB)
          have s2 : (i : Int) < (lb : Int) := by omega
          have hye : Hid (extZ E lb i = E i) := by show _ = _; unfold extZ; rw [if_pos hB]
          have by' := HE.out i hB
          obtain ⟨y, HY⟩ : ∃ y, Hid (y = E i) := ⟨_, rfl⟩
          rw [← HY.out] at t2 hye by' hneg
          have hst := less_step (P := 10000 ^ i) (a := x) (b := y) (s := (x - c - y + 10000)) (c' := 1) hV.out (by omega)
          have hrb : 0 ≤ (x - c - y + 10000) ∧ (x - c - y + 10000) < 10000 := by omega
          have HST := Lib.hid hst
          have hV2 : Hid (valZ (snI O i (x - c - y + 10000)) (i + 1) - 1 * 10000 ^ (i + 1) = valZ D (i + 1) - valZ (extZ E lb) (i + 1)) := by
            show _ = _
            have g1 : valZ (snI O i (x - c - y + 10000)) i = valZ O i := valZ_congr (fun k hk => by unfold snI; rw [if_neg (by omega)])
            have g2 : snI O i (x - c - y + 10000) i = (x - c - y + 10000) := by unfold snI; rw [if_pos rfl]
            simp only [valZ, g1, g2, hye.out, ← HX.out, pw_succ]
            exact HST.out
          have hG2 : Hid (DigZ (snI O i (x - c - y + 10000)) (i + 1)) := fun k hk => by
            unfold snI
            by_cases e : k = i
            · rw [if_pos e]; exact hrb
            · rw [if_neg e]; exact hG.out k (by omega)
          clear hst hye hV hrb
          go_wp2_with (first | (at_builtin; refine wpList_append_own _ rfl _ _ 27 rfl w.heap.size 3 i0 (.int .i64 0) 1 8 Tryz.underlying27 hi hz0 hz1 hz2 rfl (by decide) _ _ _ rfl (hO.alloc _) ⟨wr.heap.size, 0, none⟩ 1 1 [.int .i64 (x - c - y + 10000)] rfl rfl (news_one _ _ _) ?c2 ?c3 ?c4 ?c5 ?_))
          case c2 => simp [Value.oneCell']
          case c3 => unfold maxLen; omega
          case c4 => omega
          case c5 => first | omega | (simp; omega)
          intro v' w2 hO3 hgr _
          have hX2 := grew_X hgr (hO.alloc (.cells #[.int .i64 (x - c - y + 10000)] 3))
          have hK2 : Kept w w2 := (hK.alloc _).step hX2 (fun i hi => hi)
          have hs2 : w.heap.size ≤ w2.heap.size := Kept.size hK2
          have hO4 : w2.ownsRow w.heap.size 3 1 v' (i + 1) (ints (snI O i (x - c - y + 10000)) (i + 1)) := by rw [ints_sn]; exact hO3
          clear hO3 hX2 hgr hK hO hsz HST
          go_wp2_with fail
          go_roundg (la - (i + 1))
          case measure => omega
          case rel => exact ⟨i + 1, 1, snI O i (x - c - y + 10000), by omega, rfl, rfl, by go_num, by omega, by omega, hK2, hO4, hs2, hG2.out, hV2.out⟩
        · skip
          obtain rfl := ha2 (by omega)
          have t2 := hK.cellSome (HC2.out i hB)
          have s2 : (i : Int) < (lb : Int) := by omega
          have hye : Hid (extZ E lb i = E i) := by show _ = _; unfold extZ; rw [if_pos hB]
          have by' := HE.out i hB
          obtain ⟨y, HY⟩ : ∃ y, Hid (y = E i) := ⟨_, rfl⟩
          rw [← HY.out] at t2 hye by' hneg
          have hst := less_step (P := 10000 ^ i) (a := x) (b := y) (s := (x - c - y)) (c' := 0) hV.out (by omega)
          have hrb : 0 ≤ (x - c - y) ∧ (x - c - y) < 10000 := by omega
          have HST := Lib.hid hst
          have hV2 : Hid (valZ (snI O i (x - c - y)) (i + 1) - 0 * 10000 ^ (i + 1) = valZ D (i + 1) - valZ (extZ E lb) (i + 1)) := by
            show _ = _
            have g1 : valZ (snI O i (x - c - y)) i = valZ O i := valZ_congr (fun k hk => by unfold snI; rw [if_neg (by omega)])
            have g2 : snI O i (x - c - y) i = (x - c - y) := by unfold snI; rw [if_pos rfl]
            simp only [valZ, g1, g2, hye.out, ← HX.out, pw_succ]
            exact HST.out
          have hG2 : Hid (DigZ (snI O i (x - c - y)) (i + 1)) := fun k hk => by
            unfold snI
            by_cases e : k = i
            · rw [if_pos e]; exact hrb
            · rw [if_neg e]; exact hG.out k (by omega)
          clear hst hye hV hrb
          go_wp2_with (first | (at_builtin; refine wpList_append_own _ rfl _ _ 27 rfl w.heap.size 3 i0 (.int .i64 0) 1 8 Tryz.underlying27 hi hz0 hz1 hz2 rfl (by decide) _ _ _ rfl (hO.alloc _) ⟨wr.heap.size, 0, none⟩ 1 1 [.int .i64 (x - c - y)] rfl rfl (news_one _ _ _) ?c2 ?c3 ?c4 ?c5 ?_))
          case c2 => simp [Value.oneCell']
          case c3 => unfold maxLen; omega
          case c4 => omega
          case c5 => first | omega | (simp; omega)
          intro v' w2 hO3 hgr _
          have hX2 := grew_X hgr (hO.alloc (.cells #[.int .i64 (x - c - y)] 3))
          have hK2 : Kept w w2 := (hK.alloc _).step hX2 (fun i hi => hi)
          have hs2 : w.heap.size ≤ w2.heap.size := Kept.size hK2
          have hO4 : w2.ownsRow w.heap.size 3 1 v' (i + 1) (ints (snI O i (x - c - y)) (i + 1)) := by rw [ints_sn]; exact hO3
          clear hO3 hX2 hgr hK hO hsz HST
          go_wp2_with fail
          go_roundg (la - (i + 1))
          case measure => omega
          case rel => exact ⟨i + 1, 0, snI O i (x - c - y), by omega, rfl, rfl, by go_num, by omega, by omega, hK2, hO4, hs2, hG2.out, hV2.out⟩
      · by_cases hneg : x - c < 0
        · skip
          have s2 : ¬ (i : Int) < (lb : Int) := by omega
          have hye : Hid (extZ E lb i = 0) := by show _ = _; unfold extZ; rw [if_neg hB]
          have hst := less_step (P := 10000 ^ i) (a := x) (b := 0) (s := (x - c + 10000)) (c' := 1) hV.out (by omega)
          have hrb : 0 ≤ (x - c + 10000) ∧ (x - c + 10000) < 10000 := by omega
          have HST := Lib.hid hst
          have hV2 : Hid (valZ (snI O i (x - c + 10000)) (i + 1) - 1 * 10000 ^ (i + 1) = valZ D (i + 1) - valZ (extZ E lb) (i + 1)) := by
            show _ = _
            have g1 : valZ (snI O i (x - c + 10000)) i = valZ O i := valZ_congr (fun k hk => by unfold snI; rw [if_neg (by omega)])
            have g2 : snI O i (x - c + 10000) i = (x - c + 10000) := by unfold snI; rw [if_pos rfl]
            simp only [valZ, g1, g2, hye.out, ← HX.out, pw_succ]
            exact HST.out
          have hG2 : Hid (DigZ (snI O i (x - c + 10000)) (i + 1)) := fun k hk => by
            unfold snI
            by_cases e : k = i
            · rw [if_pos e]; exact hrb
            · rw [if_neg e]; exact hG.out k (by omega)
          clear hst hye hV hrb
          go_wp2_with (first | (at_builtin; refine wpList_append_own _ rfl _ _ 27 rfl w.heap.size 3 i0 (.int .i64 0) 1 8 Tryz.underlying27 hi hz0 hz1 hz2 rfl (by decide) _ _ _ rfl (hO.alloc _) ⟨wr.heap.size, 0, none⟩ 1 1 [.int .i64 (x - c + 10000)] rfl rfl (news_one _ _ _) ?c2 ?c3 ?c4 ?c5 ?_))
          case c2 => simp [Value.oneCell']
          case c3 => unfold maxLen; omega
          case c4 => omega
          case c5 => first | omega | (simp; omega)
          intro v' w2 hO3 hgr _
          have hX2 := grew_X hgr (hO.alloc (.cells #[.int .i64 (x - c + 10000)] 3))
          have hK2 : Kept w w2 := (hK.alloc _).step hX2 (fun i hi => hi)
          have hs2 : w.heap.size ≤ w2.heap.size := Kept.size hK2
          have hO4 : w2.ownsRow w.heap.size 3 1 v' (i + 1) (ints (snI O i (x - c + 10000)) (i + 1)) := by rw [ints_sn]; exact hO3
          clear hO3 hX2 hgr hK hO hsz HST
          go_wp2_with fail
          go_roundg (la - (i + 1))
          case measure => omega
          case rel => exact ⟨i + 1, 1, snI O i (x - c + 10000), by omega, rfl, rfl, by go_num, by omega, by omega, hK2, hO4, hs2, hG2.out, hV2.out⟩
        · skip
          have s2 : ¬ (i : Int) < (lb : Int) := by omega
          have hye : Hid (extZ E lb i = 0) := by show _ = _; unfold extZ; rw [if_neg hB]
          have hst := less_step (P := 10000 ^ i) (a := x) (b := 0) (s := (x - c)) (c' := 0) hV.out (by omega)
          have hrb : 0 ≤ (x - c) ∧ (x - c) < 10000 := by omega
          have HST := Lib.hid hst
          have hV2 : Hid (valZ (snI O i (x - c)) (i + 1) - 0 * 10000 ^ (i + 1) = valZ D (i + 1) - valZ (extZ E lb) (i + 1)) := by
            show _ = _
            have g1 : valZ (snI O i (x - c)) i = valZ O i := valZ_congr (fun k hk => by unfold snI; rw [if_neg (by omega)])
            have g2 : snI O i (x - c) i = (x - c) := by unfold snI; rw [if_pos rfl]
            simp only [valZ, g1, g2, hye.out, ← HX.out, pw_succ]
            exact HST.out
          have hG2 : Hid (DigZ (snI O i (x - c)) (i + 1)) := fun k hk => by
            unfold snI
            by_cases e : k = i
            · rw [if_pos e]; exact hrb
            · rw [if_neg e]; exact hG.out k (by omega)
          clear hst hye hV hrb
          go_wp2_with (first | (at_builtin; refine wpList_append_own _ rfl _ _ 27 rfl w.heap.size 3 i0 (.int .i64 0) 1 8 Tryz.underlying27 hi hz0 hz1 hz2 rfl (by decide) _ _ _ rfl (hO.alloc _) ⟨wr.heap.size, 0, none⟩ 1 1 [.int .i64 (x - c)] rfl rfl (news_one _ _ _) ?c2 ?c3 ?c4 ?c5 ?_))
          case c2 => simp [Value.oneCell']
          case c3 => unfold maxLen; omega
          case c4 => omega
          case c5 => first | omega | (simp; omega)
          intro v' w2 hO3 hgr _
          have hX2 := grew_X hgr (hO.alloc (.cells #[.int .i64 (x - c)] 3))
          have hK2 : Kept w w2 := (hK.alloc _).step hX2 (fun i hi => hi)
          have hs2 : w.heap.size ≤ w2.heap.size := Kept.size hK2
          have hO4 : w2.ownsRow w.heap.size 3 1 v' (i + 1) (ints (snI O i (x - c)) (i + 1)) := by rw [ints_sn]; exact hO3
          clear hO3 hX2 hgr hK hO hsz HST
          go_wp2_with fail
          go_roundg (la - (i + 1))
          case measure => omega
          case rel => exact ⟨i + 1, 0, snI O i (x - c), by omega, rfl, rfl, by go_num, by omega, by omega, hK2, hO4, hs2, hG2.out, hV2.out⟩
    · obtain rfl : i = la := by omega
      have s1 : ¬ (i : Int) < (i : Int) := by omega
      have hval : Hid (valZ O i = valZ D i - valZ E lb) := by
        have h1 := hV.out
        rw [extZ_le (by omega)] at h1
        have h2 := valZ_bd hG.out
        have h3 := HLE.out
        have h4 : c = 0 := by
          rcases (show c = 0 ∨ c = 1 by omega) with e | e
          · exact e
          · rw [e, Int.one_mul] at h1; omega
        rw [h4, Int.zero_mul] at h1
        show _ = _
        omega
      go_wp2_with fail
      go_ret
      exact ⟨_, i, O, rfl, hO, hG.out, hval.out, Nat.le_refl _, hK⟩
/-- a slice of digits -/
def SlAt (w : World) (v : Value) (n : Nat) (D : Nat → Int) : Prop := ∃ (a : Option Addr) (cap : Nat), v = .slice a n cap ∧ n ≤ cap ∧ (a = none → cap = 0) ∧ cap ≤ maxLen ∧ IntsAt w (.slice a n cap) n D
theorem SlAt.kept {w w' : World} {v : Value} {n : Nat} {D : Nat → Int} (h : SlAt w v n D) (k : Kept w w') : SlAt w' v n D := by
  obtain ⟨a, cap, h1, h2, h3, h4, h5⟩ := h
  exact ⟨a, cap, h1, h2, h3, h4, h5.kept k⟩
theorem SlAt.of_own {w : World} {base : Nat} {v : Value} {n : Nat} {D : Nat → Int} (h : w.ownsRow base 3 1 v n (ints D n)) : SlAt w v n D := by
  obtain ⟨a, cap, rfl, h1, h2, h3, _⟩ := own_form h
  exact ⟨a, cap, rfl, h1, h2, h3, ints_at h⟩
theorem SlAt.ints {w : World} {v : Value} {n : Nat} {D : Nat → Int} (h : SlAt w v n D) : IntsAt w v n D := by
  obtain ⟨a, cap, rfl, h1, h2, h3, h4⟩ := h
  exact h4
def bigN : Int := 10000 ^ 1000
/-- v is the number z -/
def ZAt (w : World) (v : Value) (z : Int) : Prop := ∃ (m : Bool) (s : Value) (n : Nat) (D : Nat → Int), v = .agg #[.bool m, s] ∧ SlAt w s n D ∧ LeanZ D n ∧ (m = true → 0 < n) ∧ z = sgnZ m (valZ D n) ∧ n ≤ 1000
theorem ZAt.kept {w w' : World} {v : Value} {z : Int} (h : ZAt w v z) (k : Kept w w') : ZAt w' v z := by
  obtain ⟨m, s, n, D, h1, h2, h3⟩ := h
  exact ⟨m, s, n, D, h1, h2.kept k, h3⟩
theorem ZAt.shape {w : World} {v : Value} {z : Int} (h : ZAt w v z) : ∃ m a n cap, v = .agg #[.bool m, .slice a n cap] := by
  obtain ⟨m, s, n, D, rfl, ⟨a, cap, rfl, _⟩, _⟩ := h
  exact ⟨m, a, n, cap, rfl⟩
/-- no digit lies in a box -/
theorem ZAt.keptBox {w w' : World} {v : Value} {z : Int} {r : Nat} {t : TypeId} {b : Bool} {a0 : Option Addr} {n0 c0 : Nat} (h : ZAt w v z) (k : KeptX (fun k => k = r) w w') (hr : w.rowIs r t 2 (fun i => if i = 0 then .bool b else .slice a0 n0 c0)) : ZAt w' v z := by
  obtain ⟨m, s, n, D, h1, ⟨a, cap, e, h2, h3, h4, ⟨a2, g, o, cap2, e2, ha, hc⟩⟩, h5⟩ := h
  refine ⟨m, s, n, D, h1, ⟨a, cap, e, h2, h3, h4, ⟨a2, g, o, cap2, e2, ha, fun i hi => ?_⟩⟩, h5⟩
  have h6 := hc i hi
  refine KeptX.cellSome k h6 (fun hg => ?_)
  simp only at hg
  subst hg
  by_cases h7 : o + i < 2
  · rw [hr.cell h7] at h6
    have h9 : (if o + i = 0 then Value.bool b else Value.slice a0 n0 c0) = Value.int .i64 (D i) := Option.some.inj h6
    by_cases h8 : o + i = 0
    · rw [if_pos h8] at h9; cases h9
    · rw [if_neg h8] at h9; cases h9
  · obtain ⟨c, c1, c2, _⟩ := hr
    unfold World.cell? at h6
    simp only [c1] at h6
    rw [Array.getElem?_eq_none (by omega)] at h6
    cases h6
def Big (z : Int) : Prop := -bigN < z ∧ z < bigN
def ZPost (w : World) (z : Int) (e : Ending) (w' : World) : Prop := ∃ v, e = .returned v ∧ ZAt w' v z ∧ Kept w w'
/-- where the zeros at the end begin -/
theorem lean_of {D : Nat → Int} {n l : Nat} (hD : DigZ D l) (hn : n ≤ l) (hz : ∀ i, n ≤ i → i < l → D i = 0) (ht : n = 0 ∨ D (n - 1) ≠ 0) : LeanZ D n ∧ valZ D n = valZ D l := by
  refine ⟨⟨fun i hi => hD i (by omega), fun h => by rcases ht with h2 | h2; omega; exact h2⟩, ?_⟩
  have := valZ_zeros (D := D) (n := n) (l - n) (fun i h1 h2 => hz i h1 (by omega))
  rw [show n + (l - n) = l by omega] at this
  exact this.symm
/-- a box of two cells -/
def bx (x y : Value) : Nat → Value := fun i => if i = 0 then x else y
theorem box_row (w : World) (x y : Value) (t : TypeId) (s : Nat) (hs : w.heap.size = s) : (w.alloc (.cells #[x, y] t)).rowIs s t 2 (bx x y) := by
  subst hs
  exact World.rowIs_alloc w #[x, y] t (bx x y) (fun j hj => by
    have : j = 0 ∨ j = 1 := by simp at hj; omega
    rcases this with rfl | rfl <;> rfl)
theorem bx_set0 {w : World} {b : Nat} {t : TypeId} {x y : Value} (h : w.rowIs b t 2 (bx x y)) (v : Value) : (w.setCell ⟨b, 0, none⟩ v).rowIs b t 2 (bx v y) :=
  (h.set 0 v).congr (fun j hj => by
    have : j = 0 ∨ j = 1 := by omega
    rcases this with rfl | rfl <;> simp [bx])
theorem bx_set1 {w : World} {b : Nat} {t : TypeId} {x y : Value} (h : w.rowIs b t 2 (bx x y)) (v : Value) : (w.setCell ⟨b, 1, none⟩ v).rowIs b t 2 (bx x v) :=
  (h.set 1 v).congr (fun j hj => by
    have : j = 0 ∨ j = 1 := by omega
    rcases this with rfl | rfl <;> simp [bx])
theorem bx_cells {w : World} {b : Nat} {t : TypeId} {x y : Value} (h : w.rowIs b t 2 (bx x y)) : w.cell? ⟨b, 0, none⟩ = some x ∧ w.cell? ⟨b, 1, none⟩ = some y ∧ w.frozen? ⟨b, 0, none⟩ = false ∧ w.frozen? ⟨b, 1, none⟩ = false :=
  ⟨h.cell (i := 0) (by omega), h.cell (i := 1) (by omega), h.frozen 0, h.frozen 1⟩
/-- what lean gives: its digits lie in memory of its own -/
def LPost (w : World) (z : Int) (e : Ending) (w' : World) : Prop := ∃ (m : Bool) (s : Value) (n : Nat) (D : Nat → Int), e = .returned (.agg #[.bool m, s]) ∧ w'.ownsRow w.heap.size 3 1 s n (ints D n) ∧ LeanZ D n ∧ (m = true → 0 < n) ∧ z = sgnZ m (valZ D n) ∧ n ≤ 1000 ∧ Kept w w'
set_option maxRecDepth 100000 in
set_option maxHeartbeats 4000000 in
theorem lean_full (w : World) (m : Bool) (s : Value) (l : Nat) (D : Nat → Int) (hS : SlAt w s l D) (hD : DigZ D l) (hl : l ≤ 100000) (hb : valZ D l < bigN) :
    Calls Tryz.prog 101 #[.agg #[.bool m, s]] w (LPost w (sgnZ m (valZ D l))) := by
  obtain ⟨a, cap, rfl, hcap, hnil, hmax, ⟨a2, b, o, cap2, eqa, ha, hc⟩⟩ := hS
  cases eqa
  obtain ⟨i0, hi, hz0, hz1, hz2⟩ := info_parts Tryz.info3
  have HD := Lib.hid hD
  have HC := Lib.hid hc
  have HB := Lib.hid hb
  clear hD hc hb
  go_enter Tryz.func101, Tryz.ntmps101
  go_wp2_with fail
  have hZ0 := box_row w (.bool m) (.slice a l cap) 53 w.heap.size rfl
  have hR1 := box_row (w.alloc (.cells #[.bool m, .slice a l cap] 53)) (.bool false) (.slice none 0 0) 53 (w.heap.size + 1) (by simp)
  have hZ1 := Kept.row ((Kept.refl _).alloc (.cells #[.bool false, .slice none 0 0] 53)) hZ0
  have hk1 : Kept w ((w.alloc (.cells #[.bool m, .slice a l cap] 53)).alloc (.cells #[.bool false, .slice none 0 0] 53)) := ((Kept.refl w).alloc _).alloc _
  generalize ((w.alloc (.cells #[.bool m, .slice a l cap] 53)).alloc (.cells #[.bool false, .slice none 0 0] 53)) = W at *
  clear hZ0
  obtain ⟨z0, HZ0⟩ : ∃ z0, Hid (z0 = w.heap.size) := ⟨_, rfl⟩
  obtain ⟨r0, HR0⟩ : ∃ r0, Hid (r0 = w.heap.size + 1) := ⟨_, rfl⟩
  rw [← HR0.out] at hR1 ⊢
  rw [← HZ0.out] at hZ1 ⊢
  have HZW : Hid (w.heap.size ≤ z0) := by show _ ≤ _; rw [HZ0.out]; exact Nat.le_refl _
  have HRW : Hid (w.heap.size ≤ r0) := by show _ ≤ _; rw [HR0.out]; omega
  have hzr : z0 ≠ r0 := by rw [HZ0.out, HR0.out]; omega
  have HZ1 := Lib.hid hZ1
  have HR1 := Lib.hid hR1
  obtain ⟨k0, k1, k2, k3⟩ := bx_cells hZ1
  obtain ⟨j0, j1, j2, j3⟩ := bx_cells hR1
  clear hZ1 hR1
  go_loopg [3] (l + 1) (fun g s3 wr => ∃ n : Nat, n ≤ l ∧ g = n + 1 ∧ s3 = .int .i64 n ∧ Hid (∀ i, n ≤ i → i < l → D i = 0) ∧ W = wr)
  case atStart => exact ⟨l, Nat.le_refl _, rfl, rfl, (fun i h1 h2 => by omega), rfl⟩
  case round =>
    obtain ⟨n, hn, rfl, rfl, hzs, rfl⟩ := hrel
    by_cases hgo : 0 < n ∧ D (n - 1) = 0
    · obtain ⟨g1, g2⟩ := hgo
      obtain rfl := ha (by omega)
      have x0 := hk1.cellSome (HC.out (n - 1) (by omega))
      rw [g2] at x0
      have e1 : (n : Int) - 1 = ((n - 1 : Nat) : Int) := by omega
      have s1 : (0 : Int) < (n : Int) := by omega
      have s2 : ((n - 1 : Nat) : Int) < (l : Int) := by omega
      have hz2 : Hid (∀ i, n - 1 ≤ i → i < l → D i = 0) := fun i h1 h2 => by
        by_cases e : i = n - 1
        · rw [e]; exact g2
        · exact hzs.out i (by omega) h2
      clear g2
      go_wp2_with fail
      go_roundg (n - 1 + 1)
      case measure => omega
      case rel => exact ⟨n - 1, by omega, rfl, rfl, hz2.out, rfl⟩
    · have hlz := lean_of HD.out hn hzs.out (by
        by_cases e : n = 0
        · exact Or.inl e
        · exact Or.inr (fun h => hgo ⟨by omega, h⟩))
      have HLZ := Lib.hid hlz
      have hn1000 : n ≤ 1000 := lean_le hlz.1 (by rw [hlz.2]; exact HB.out)
      have hO := own_zeroT W W.heap.size 3 1 (Nat.le_refl _)
      have hk2 : Kept W (W.alloc (.cells #[] 3)) := (Kept.refl W).alloc _
      have q0 := hk2.cellSome k0
      have q1 := hk2.cellSome k1
      have zlt : z0 < W.heap.size := HZ1.out.lt
      have rlt : r0 < W.heap.size := HR1.out.lt
      have g2 : (n : Int) ≤ (cap : Int) := by omega
      have g3 : (0 : Int) ≤ (n : Int) := by omega
      have hszA : W.heap.size ≤ (W.alloc (.cells #[] 3)).heap.size := hk2.size
      clear hlz
      by_cases hn0 : n = 0
      · have HN0 := Lib.hid hn0
        have HV0 : Hid (sgnZ m (valZ D l) = sgnZ false (valZ D n)) := by
          show _ = _
          rw [← HLZ.out.2, HN0.out]
          cases m <;> rfl
        have s1 : ¬ (0 : Int) < (n : Int) := by omega
        have s4 : ¬ 0 < n := by omega
        clear hgo hn0
        cases a with
        | none =>
          obtain rfl := hnil rfl
          obtain rfl : n = 0 := by omega
          obtain rfl : l = 0 := by omega
          have hZ2 := hk2.row HZ1.out
          have hR2 := hk2.row HR1.out
          have hK2 : Kept w (W.alloc (.cells #[] 3)) := hk1.trans hk2
          have hO3 : (W.alloc (.cells #[] 3)).ownsRow W.heap.size 3 1 (.slice (some ⟨W.heap.size, 0, none⟩) 0 0) 0 (ints D 0) := hO
          have HO3 := Lib.hid hO3
          obtain ⟨y0, y1, y2, y3⟩ := bx_cells hZ2
          obtain ⟨x4, x5, x6, x7⟩ := bx_cells hR2
          clear hO3 j0 j1 j2 j3 q0 q1
          cases m
          · go_wp2_with (first | (at_builtin; refine wpList_append_own_none rfl _ _ 27 rfl W.heap.size 3 i0 1 Tryz.underlying27 hi _ _ _ rfl hO rfl ?_; generalize W.alloc (.cells #[] 3) = W2 at *))
            have hzF := HZW.out
            have hrF := HRW.out
            have hR3 := ((hR2.setOther (a := ⟨z0, 1, none⟩) (Ne.symm hzr) (.slice (some ⟨W.heap.size, 0, none⟩) 0 0)).setOther (a := ⟨z0, 0, none⟩) (Ne.symm hzr) (.bool false))
            have hR4 := bx_set1 (bx_set0 hR3 (.bool false)) (.slice (some ⟨W.heap.size, 0, none⟩) 0 0)
            obtain ⟨f0, f1, _, _⟩ := bx_cells hR4
            have hKF : Kept w ((((W2.setCell ⟨z0, 1, none⟩ (.slice (some ⟨W.heap.size, 0, none⟩) 0 0)).setCell ⟨z0, 0, none⟩ (.bool false)).setCell ⟨r0, 0, none⟩ (.bool false)).setCell ⟨r0, 1, none⟩ (.slice (some ⟨W.heap.size, 0, none⟩) 0 0)) := (((hK2.setCell hzF _).setCell hzF _).setCell hrF _).setCell hrF _
            have hkX : KeptX (fun k => k = z0 ∨ k = r0) W2 ((((W2.setCell ⟨z0, 1, none⟩ (.slice (some ⟨W.heap.size, 0, none⟩) 0 0)).setCell ⟨z0, 0, none⟩ (.bool false)).setCell ⟨r0, 0, none⟩ (.bool false)).setCell ⟨r0, 1, none⟩ (.slice (some ⟨W.heap.size, 0, none⟩) 0 0)) := ((((KeptX.refl _ W2).setCell (Or.inl (Or.inl rfl)) _).setCell (Or.inl (Or.inl rfl)) _).setCell (Or.inl (Or.inr rfl)) _).setCell (Or.inl (Or.inr rfl)) _
            have hO5 := own_keptX HO3.out hkX (fun b h => by rcases h with h | h <;> omega)
            generalize ((((W2.setCell ⟨z0, 1, none⟩ (.slice (some ⟨W.heap.size, 0, none⟩) 0 0)).setCell ⟨z0, 0, none⟩ (.bool false)).setCell ⟨r0, 0, none⟩ (.bool false)).setCell ⟨r0, 1, none⟩ (.slice (some ⟨W.heap.size, 0, none⟩) 0 0)) = WF at *
            exact bodyPost_ret (v := .agg #[.bool false, .slice (some ⟨W.heap.size, 0, none⟩) 0 0]) (by simp [results, Tryz.results101, go_sem, f0, f1]) rfl ⟨false, _, 0, D, rfl, own_base hO5 hk1.size, HLZ.out.1, (fun h => by cases h), (by first | exact HV0.out | rfl), hn1000, hKF⟩
          · go_wp2_with (first | (at_builtin; refine wpList_append_own_none rfl _ _ 27 rfl W.heap.size 3 i0 1 Tryz.underlying27 hi _ _ _ rfl hO rfl ?_; generalize W.alloc (.cells #[] 3) = W2 at *))
            have hzF := HZW.out
            have hrF := HRW.out
            have hR3 := ((hR2.setOther (a := ⟨z0, 1, none⟩) (Ne.symm hzr) (.slice (some ⟨W.heap.size, 0, none⟩) 0 0)).setOther (a := ⟨z0, 0, none⟩) (Ne.symm hzr) (.bool false))
            have hR4 := bx_set1 (bx_set0 hR3 (.bool false)) (.slice (some ⟨W.heap.size, 0, none⟩) 0 0)
            obtain ⟨f0, f1, _, _⟩ := bx_cells hR4
            have hKF : Kept w ((((W2.setCell ⟨z0, 1, none⟩ (.slice (some ⟨W.heap.size, 0, none⟩) 0 0)).setCell ⟨z0, 0, none⟩ (.bool false)).setCell ⟨r0, 0, none⟩ (.bool false)).setCell ⟨r0, 1, none⟩ (.slice (some ⟨W.heap.size, 0, none⟩) 0 0)) := (((hK2.setCell hzF _).setCell hzF _).setCell hrF _).setCell hrF _
            have hkX : KeptX (fun k => k = z0 ∨ k = r0) W2 ((((W2.setCell ⟨z0, 1, none⟩ (.slice (some ⟨W.heap.size, 0, none⟩) 0 0)).setCell ⟨z0, 0, none⟩ (.bool false)).setCell ⟨r0, 0, none⟩ (.bool false)).setCell ⟨r0, 1, none⟩ (.slice (some ⟨W.heap.size, 0, none⟩) 0 0)) := ((((KeptX.refl _ W2).setCell (Or.inl (Or.inl rfl)) _).setCell (Or.inl (Or.inl rfl)) _).setCell (Or.inl (Or.inr rfl)) _).setCell (Or.inl (Or.inr rfl)) _
            have hO5 := own_keptX HO3.out hkX (fun b h => by rcases h with h | h <;> omega)
            generalize ((((W2.setCell ⟨z0, 1, none⟩ (.slice (some ⟨W.heap.size, 0, none⟩) 0 0)).setCell ⟨z0, 0, none⟩ (.bool false)).setCell ⟨r0, 0, none⟩ (.bool false)).setCell ⟨r0, 1, none⟩ (.slice (some ⟨W.heap.size, 0, none⟩) 0 0)) = WF at *
            exact bodyPost_ret (v := .agg #[.bool false, .slice (some ⟨W.heap.size, 0, none⟩) 0 0]) (by simp [results, Tryz.results101, go_sem, f0, f1]) rfl ⟨false, _, 0, D, rfl, own_base hO5 hk1.size, HLZ.out.1, (fun h => by cases h), (by first | exact HV0.out | rfl), hn1000, hKF⟩
        | some ad =>
          go_wp2_with (first | (at_builtin; refine wpList_append_own _ rfl _ _ 27 rfl W.heap.size 3 i0 (.int .i64 0) 1 8 Tryz.underlying27 hi hz0 hz1 hz2 rfl (by decide) _ _ _ rfl hO ad n cap (ints D n) rfl (by simp [ints]) ?c1 ?c2 ?c3 ?c4 ?c5 ?_))
          case c1 => exact fun j u h => by obtain ⟨h1, rfl⟩ := ints_get h; exact absurd h1 (by have := HN0.out; omega)
          case c2 => intro u hu; simp [ints] at hu; obtain ⟨i, _, rfl⟩ := hu; rfl
          case c3 => unfold maxLen; omega
          case c4 => omega
          intro v' w2 hO2 hgr _
          have hX := grew_X hgr hO
          have hZ2 := hX.row (hk2.row HZ1.out) (by omega)
          have hR2 := hX.row (hk2.row HR1.out) (by omega)
          have hK2 : Kept w w2 := (hk1.trans hk2).step hX (fun i hi => Nat.le_trans hk1.size hi)
          have hO3 : w2.ownsRow W.heap.size 3 1 v' n (ints D n) := by simpa using hO2
          obtain ⟨va, vc, rfl, _⟩ := own_form hO3
          have HO3 := Lib.hid hO3
          obtain ⟨y0, y1, y2, y3⟩ := bx_cells hZ2
          obtain ⟨x4, x5, x6, x7⟩ := bx_cells hR2
          clear hO3 hO hO2 hgr k0 k1 k2 k3 j0 j1 j2 j3 q0 q1
          cases m
          · go_wp2_with fail
            have hzF := HZW.out
            have hrF := HRW.out
            have hR3 := ((hR2.setOther (a := ⟨z0, 1, none⟩) (Ne.symm hzr) (.slice va n vc)).setOther (a := ⟨z0, 0, none⟩) (Ne.symm hzr) (.bool false))
            have hR4 := bx_set1 (bx_set0 hR3 (.bool false)) (.slice va n vc)
            obtain ⟨f0, f1, _, _⟩ := bx_cells hR4
            have hKF : Kept w ((((w2.setCell ⟨z0, 1, none⟩ (.slice va n vc)).setCell ⟨z0, 0, none⟩ (.bool false)).setCell ⟨r0, 0, none⟩ (.bool false)).setCell ⟨r0, 1, none⟩ (.slice va n vc)) := (((hK2.setCell hzF _).setCell hzF _).setCell hrF _).setCell hrF _
            have hkX : KeptX (fun k => k = z0 ∨ k = r0) w2 ((((w2.setCell ⟨z0, 1, none⟩ (.slice va n vc)).setCell ⟨z0, 0, none⟩ (.bool false)).setCell ⟨r0, 0, none⟩ (.bool false)).setCell ⟨r0, 1, none⟩ (.slice va n vc)) := ((((KeptX.refl _ w2).setCell (Or.inl (Or.inl rfl)) _).setCell (Or.inl (Or.inl rfl)) _).setCell (Or.inl (Or.inr rfl)) _).setCell (Or.inl (Or.inr rfl)) _
            have hO5 := own_keptX HO3.out hkX (fun b h => by rcases h with h | h <;> omega)
            generalize ((((w2.setCell ⟨z0, 1, none⟩ (.slice va n vc)).setCell ⟨z0, 0, none⟩ (.bool false)).setCell ⟨r0, 0, none⟩ (.bool false)).setCell ⟨r0, 1, none⟩ (.slice va n vc)) = WF at *
            exact bodyPost_ret (v := .agg #[.bool false, .slice va n vc]) (by simp [results, Tryz.results101, go_sem, f0, f1]) rfl ⟨false, _, n, D, rfl, own_base hO5 hk1.size, HLZ.out.1, (fun h => by cases h), (by first | exact HV0.out | rfl), hn1000, hKF⟩
          · go_wp2_with fail
            have hzF := HZW.out
            have hrF := HRW.out
            have hR3 := ((hR2.setOther (a := ⟨z0, 1, none⟩) (Ne.symm hzr) (.slice va n vc)).setOther (a := ⟨z0, 0, none⟩) (Ne.symm hzr) (.bool false))
            have hR4 := bx_set1 (bx_set0 hR3 (.bool false)) (.slice va n vc)
            obtain ⟨f0, f1, _, _⟩ := bx_cells hR4
            have hKF : Kept w ((((w2.setCell ⟨z0, 1, none⟩ (.slice va n vc)).setCell ⟨z0, 0, none⟩ (.bool false)).setCell ⟨r0, 0, none⟩ (.bool false)).setCell ⟨r0, 1, none⟩ (.slice va n vc)) := (((hK2.setCell hzF _).setCell hzF _).setCell hrF _).setCell hrF _
            have hkX : KeptX (fun k => k = z0 ∨ k = r0) w2 ((((w2.setCell ⟨z0, 1, none⟩ (.slice va n vc)).setCell ⟨z0, 0, none⟩ (.bool false)).setCell ⟨r0, 0, none⟩ (.bool false)).setCell ⟨r0, 1, none⟩ (.slice va n vc)) := ((((KeptX.refl _ w2).setCell (Or.inl (Or.inl rfl)) _).setCell (Or.inl (Or.inl rfl)) _).setCell (Or.inl (Or.inr rfl)) _).setCell (Or.inl (Or.inr rfl)) _
            have hO5 := own_keptX HO3.out hkX (fun b h => by rcases h with h | h <;> omega)
            generalize ((((w2.setCell ⟨z0, 1, none⟩ (.slice va n vc)).setCell ⟨z0, 0, none⟩ (.bool false)).setCell ⟨r0, 0, none⟩ (.bool false)).setCell ⟨r0, 1, none⟩ (.slice va n vc)) = WF at *
            exact bodyPost_ret (v := .agg #[.bool false, .slice va n vc]) (by simp [results, Tryz.results101, go_sem, f0, f1]) rfl ⟨false, _, n, D, rfl, own_base hO5 hk1.size, HLZ.out.1, (fun h => by cases h), (by first | exact HV0.out | rfl), hn1000, hKF⟩
      · have s1 : (0 : Int) < (n : Int) := by omega
        have hne : D (n - 1) ≠ 0 := fun h => hgo ⟨by omega, h⟩
        obtain rfl := ha (by omega)
        have x0 := hk1.cellSome (HC.out (n - 1) (by omega))
        have e1 : (n : Int) - 1 = ((n - 1 : Nat) : Int) := by omega
        have s2 : ((n - 1 : Nat) : Int) < (l : Int) := by omega
        have hz1' : (D (n - 1) == 0) = false := by simpa using hne
        obtain ⟨dd, HDD⟩ : ∃ dd, Hid (dd = D (n - 1)) := ⟨_, rfl⟩
        rw [← HDD.out] at x0 hz1' hne
        have s4 : 0 < n := by omega
        clear hgo
        go_wp2_with (first | (at_builtin; refine wpList_append_own _ rfl _ _ 27 rfl W.heap.size 3 i0 (.int .i64 0) 1 8 Tryz.underlying27 hi hz0 hz1 hz2 rfl (by decide) _ _ _ rfl hO ⟨b, o, none⟩ n cap (ints D n) rfl (by simp [ints]) ?c1 ?c2 ?c3 ?c4 ?c5 ?_))
        case c1 => exact fun j u h => by obtain ⟨h1, rfl⟩ := ints_get h; exact hk2.cellSome (hk1.cellSome (HC.out j (by omega)))
        case c2 => intro u hu; simp [ints] at hu; obtain ⟨i, _, rfl⟩ := hu; rfl
        case c3 => unfold maxLen; omega
        case c4 => omega
        intro v' w2 hO2 hgr _
        have hX := grew_X hgr hO
        have hZ2 := hX.row (hk2.row HZ1.out) (by omega)
        have hR2 := hX.row (hk2.row HR1.out) (by omega)
        have hK2 : Kept w w2 := (hk1.trans hk2).step hX (fun i hi => Nat.le_trans hk1.size hi)
        have hO3 : w2.ownsRow W.heap.size 3 1 v' n (ints D n) := by simpa using hO2
        have hO3 : w2.ownsRow W.heap.size 3 1 v' n (ints D n) := by simpa using hO2
        obtain ⟨va, vc, rfl, _⟩ := own_form hO3
        have HO3 := Lib.hid hO3
        obtain ⟨y0, y1, y2, y3⟩ := bx_cells hZ2
        obtain ⟨x4, x5, x6, x7⟩ := bx_cells hR2
        clear hO3 hO hO2 hgr k0 k1 k2 k3 j0 j1 j2 j3 q0 q1 x0
        cases m
        · go_wp2_with fail
          have hzF := HZW.out
          have hrF := HRW.out
          have hR3 := ((hR2.setOther (a := ⟨z0, 1, none⟩) (Ne.symm hzr) (.slice va n vc)).setOther (a := ⟨z0, 0, none⟩) (Ne.symm hzr) (.bool false))
          have hR4 := bx_set1 (bx_set0 hR3 (.bool false)) (.slice va n vc)
          obtain ⟨f0, f1, _, _⟩ := bx_cells hR4
          have hKF : Kept w ((((w2.setCell ⟨z0, 1, none⟩ (.slice va n vc)).setCell ⟨z0, 0, none⟩ (.bool false)).setCell ⟨r0, 0, none⟩ (.bool false)).setCell ⟨r0, 1, none⟩ (.slice va n vc)) := (((hK2.setCell hzF _).setCell hzF _).setCell hrF _).setCell hrF _
          have hkX : KeptX (fun k => k = z0 ∨ k = r0) w2 ((((w2.setCell ⟨z0, 1, none⟩ (.slice va n vc)).setCell ⟨z0, 0, none⟩ (.bool false)).setCell ⟨r0, 0, none⟩ (.bool false)).setCell ⟨r0, 1, none⟩ (.slice va n vc)) := ((((KeptX.refl _ w2).setCell (Or.inl (Or.inl rfl)) _).setCell (Or.inl (Or.inl rfl)) _).setCell (Or.inl (Or.inr rfl)) _).setCell (Or.inl (Or.inr rfl)) _
          have hO5 := own_keptX HO3.out hkX (fun b h => by rcases h with h | h <;> omega)
          generalize ((((w2.setCell ⟨z0, 1, none⟩ (.slice va n vc)).setCell ⟨z0, 0, none⟩ (.bool false)).setCell ⟨r0, 0, none⟩ (.bool false)).setCell ⟨r0, 1, none⟩ (.slice va n vc)) = WF at *
          exact bodyPost_ret (v := .agg #[.bool false, .slice va n vc]) (by simp [results, Tryz.results101, go_sem, f0, f1]) rfl ⟨false, _, n, D, rfl, own_base hO5 hk1.size, HLZ.out.1, (fun h => by cases h), by rw [sgnZ, HLZ.out.2]; rfl, hn1000, hKF⟩
        · go_wp2_with fail
          have hzF := HZW.out
          have hrF := HRW.out
          have hR3 := ((hR2.setOther (a := ⟨z0, 1, none⟩) (Ne.symm hzr) (.slice va n vc)).setOther (a := ⟨z0, 0, none⟩) (Ne.symm hzr) (.bool true))
          have hR4 := bx_set1 (bx_set0 hR3 (.bool true)) (.slice va n vc)
          obtain ⟨f0, f1, _, _⟩ := bx_cells hR4
          have hKF : Kept w ((((w2.setCell ⟨z0, 1, none⟩ (.slice va n vc)).setCell ⟨z0, 0, none⟩ (.bool true)).setCell ⟨r0, 0, none⟩ (.bool true)).setCell ⟨r0, 1, none⟩ (.slice va n vc)) := (((hK2.setCell hzF _).setCell hzF _).setCell hrF _).setCell hrF _
          have hkX : KeptX (fun k => k = z0 ∨ k = r0) w2 ((((w2.setCell ⟨z0, 1, none⟩ (.slice va n vc)).setCell ⟨z0, 0, none⟩ (.bool true)).setCell ⟨r0, 0, none⟩ (.bool true)).setCell ⟨r0, 1, none⟩ (.slice va n vc)) := ((((KeptX.refl _ w2).setCell (Or.inl (Or.inl rfl)) _).setCell (Or.inl (Or.inl rfl)) _).setCell (Or.inl (Or.inr rfl)) _).setCell (Or.inl (Or.inr rfl)) _
          have hO5 := own_keptX HO3.out hkX (fun b h => by rcases h with h | h <;> omega)
          generalize ((((w2.setCell ⟨z0, 1, none⟩ (.slice va n vc)).setCell ⟨z0, 0, none⟩ (.bool true)).setCell ⟨r0, 0, none⟩ (.bool true)).setCell ⟨r0, 1, none⟩ (.slice va n vc)) = WF at *
          exact bodyPost_ret (v := .agg #[.bool true, .slice va n vc]) (by simp [results, Tryz.results101, go_sem, f0, f1]) rfl ⟨true, _, n, D, rfl, own_base hO5 hk1.size, HLZ.out.1, (fun _ => by omega), by rw [sgnZ, HLZ.out.2]; rfl, hn1000, hKF⟩
theorem lean_any (w : World) (m : Bool) (s : Value) (l : Nat) (D : Nat → Int) (hS : SlAt w s l D) (hD : DigZ D l) (hl : l ≤ 100000) (hb : valZ D l < bigN) :
    Calls Tryz.prog 101 #[.agg #[.bool m, s]] w (ZPost w (sgnZ m (valZ D l))) := by
  refine (lean_full w m s l D hS hD hl hb).mono ?_
  rintro e w' ⟨m2, s2, n, D2, rfl, h1, h2, h3, h4, h5, h6⟩
  exact ⟨_, rfl, ⟨m2, s2, n, D2, rfl, SlAt.of_own h1, h2, h3, h4, h5⟩, h6⟩
theorem sgn_neg (m : Bool) (x : Int) : sgnZ (!m) x = - sgnZ m x := by cases m <;> simp [sgnZ]
theorem z_zero {D : Nat → Int} (m : Bool) : sgnZ m (valZ D 0) = 0 := by cases m <;> simp [sgnZ, valZ]
set_option maxRecDepth 100000 in
set_option maxHeartbeats 4000000 in
theorem Neg_any (w : World) (v : Value) (z : Int) (hZ : ZAt w v z) :
    Calls Tryz.prog 95 #[v] w (ZPost w (-z)) := by
  obtain ⟨m, sv, l, D, rfl, hS, hL, hm, rfl, hl⟩ := hZ
  have HS := Lib.hid hS
  have HL := Lib.hid hL
  obtain ⟨a, cap, rfl, _⟩ := hS
  clear hL
  by_cases h0 : l = 0
  · subst h0
    have hz : Hid (∀ w', Kept w w' → ZAt w' (.agg #[.bool false, .slice a 0 cap]) (- sgnZ m (valZ D 0))) := fun w' k => ⟨false, _, 0, D, rfl, HS.out.kept k, HL.out, (fun h => by cases h), by rw [z_zero, z_zero]; rfl, hl⟩
    cases m
    · clear hm
      go_enter Tryz.func95, Tryz.ntmps95
      go_wp2_with fail
      exact bodyPost_ret (v := .agg #[.bool false, .slice a 0 cap]) (by simp [results, Tryz.results95, go_sem]) rfl ⟨_, rfl, hz.out _ (((Kept.refl w).alloc _).alloc _), ((Kept.refl w).alloc _).alloc _⟩
    · exact absurd (hm rfl) (by omega)
  · have h1 : 0 < l := by omega
    have h2 : (0 : Int) < (l : Int) := by omega
    have hz : Hid (∀ w', Kept w w' → ZAt w' (.agg #[.bool (!m), .slice a l cap]) (- sgnZ m (valZ D l))) := fun w' k => ⟨!m, _, l, D, rfl, HS.out.kept k, HL.out, (fun _ => h1), by rw [sgn_neg], hl⟩
    cases m
    · clear hm
      go_enter Tryz.func95, Tryz.ntmps95
      go_wp2_with fail
      exact bodyPost_ret (v := .agg #[.bool true, .slice a l cap]) (by simp [results, Tryz.results95, go_sem]) rfl ⟨_, rfl, hz.out _ (((Kept.refl w).alloc _).alloc _), ((Kept.refl w).alloc _).alloc _⟩
    · clear hm
      go_enter Tryz.func95, Tryz.ntmps95
      go_wp2_with fail
      exact bodyPost_ret (v := .agg #[.bool false, .slice a l cap]) (by simp [results, Tryz.results95, go_sem]) rfl ⟨_, rfl, hz.out _ (((Kept.refl w).alloc _).alloc _), ((Kept.refl w).alloc _).alloc _⟩
set_option maxRecDepth 100000 in
set_option maxHeartbeats 4000000 in
theorem Sign_any (w : World) (v : Value) (z : Int) (hZ : ZAt w v z) :
    Calls Tryz.prog 39 #[v] w fun e w' => e = .returned (.int .i64 (signI z)) ∧ Kept w w' := by
  obtain ⟨m, sv, l, D, rfl, hS, hL, hm, rfl, hl⟩ := hZ
  obtain ⟨a, cap, rfl, _⟩ := hS
  have hb := valZ_bd hL.1
  have hz := lean_zero hL
  by_cases h0 : l = 0
  · subst h0
    rw [z_zero]
    clear hL hm hz hb
    cases m <;>
    · go_enter Tryz.func39, Tryz.ntmps39
      go_wp2_with fail
      go_ret
      exact ⟨rfl, (Kept.refl w).alloc _⟩
  · have h1 : (l : Int) ≠ 0 := by omega
    have h2 : ¬ (l : Int) = 0 := h1
    have h3 : 0 < valZ D l := by
      have : valZ D l ≠ 0 := fun h => h0 (hz.1 h)
      omega
    have hs : Hid (signI (sgnZ m (valZ D l)) = if m then -1 else 1) := by
      show _ = _
      cases m
      · simp only [sgnZ, signI, if_false, Bool.false_eq_true]; rw [if_neg (by omega), if_pos h3]
      · simp only [sgnZ, signI, if_true]; rw [if_pos (by omega)]
    clear hL hm hz hb h3
    cases m <;>
    · rw [hs.out]
      go_enter Tryz.func39, Tryz.ntmps39
      go_wp2_with fail
      go_ret
      exact ⟨rfl, (Kept.refl w).alloc _⟩
/-- the digits lie in a row of numbers -/
def ZTy (w : World) (v : Value) : Prop := ∃ (m : Bool) (a : Option Addr) (n c : Nat), v = .agg #[.bool m, .slice a n c] ∧ (0 < n → ∃ (g o N : Nat) (f : Nat → Value), a = some ⟨g, o, none⟩ ∧ w.rowIs g 3 N f)
theorem ZTy.kept {w w' : World} {v : Value} (h : ZTy w v) (k : Kept w w') : ZTy w' v := by
  obtain ⟨m, a, n, c, e, h1⟩ := h
  refine ⟨m, a, n, c, e, fun hn => ?_⟩
  obtain ⟨g, o, N, f, e2, h2⟩ := h1 hn
  exact ⟨g, o, N, f, e2, k.row h2⟩
theorem row_ty {w : World} {g : Nat} {t t' : TypeId} {N N' : Nat} {f f' : Nat → Value} (h : w.rowIs g t N f) (h' : w.rowIs g t' N' f') : t = t' := by
  obtain ⟨c, c1, _⟩ := h
  obtain ⟨c', c2, _⟩ := h'
  rw [c1] at c2
  injection c2 with c2
  injection c2
theorem ZTy.keptX {w w' : World} {v : Value} {r N : Nat} {t : TypeId} {f : Nat → Value} (h : ZTy w v) (k : KeptX (fun k => k = r) w w') (hr : w.rowIs r t N f) (ht : t ≠ 3) : ZTy w' v := by
  obtain ⟨m, a, n, c, e, h1⟩ := h
  refine ⟨m, a, n, c, e, fun hn => ?_⟩
  obtain ⟨g, o, N, f, e2, h2⟩ := h1 hn
  exact ⟨g, o, N, f, e2, k.row h2 (fun hg => by
    subst hg
    exact ht (row_ty hr h2))⟩
theorem ZAt.keptTy {w w' : World} {v : Value} {z : Int} {r N : Nat} {t : TypeId} {f : Nat → Value} (h : ZAt w v z) (hT : ZTy w v) (k : KeptX (fun k => k = r) w w') (hr : w.rowIs r t N f) (ht : t ≠ 3) : ZAt w' v z := by
  obtain ⟨m, s, n, D, h1, ⟨a, cap, e, h2, h3, h4, ⟨a2, g, o, cap2, e2, ha, hc⟩⟩, h5⟩ := h
  subst e
  cases e2
  obtain ⟨m', a', n', c', e3, h6⟩ := hT
  rw [h1] at e3
  injection e3 with e3
  injection e3 with e3
  injection e3 with _ e3
  injection e3 with e3 _
  injection e3 with e4 e5 e6
  refine ⟨m, _, n, D, h1, ⟨a, cap, rfl, h2, h3, h4, ⟨a, g, o, cap, rfl, ha, fun i hi => ?_⟩⟩, h5⟩
  refine KeptX.cellSome k (hc i hi) (fun hg => ?_)
  obtain ⟨g', o', N', f', e7, h7⟩ := h6 (by omega)
  have e8 := ha (by omega)
  rw [e4, e7] at e8
  injection e8 with e8
  injection e8 with e8 _
  subst e8
  subst hg
  exact ht (row_ty hr h7)
theorem own_rowIs {w : World} {base e size : Nat} {n g cap : Nat} {xs : List Value} (h : w.ownsRow base e size (.slice (some ⟨g, 0, none⟩) n cap) n xs) : ∃ N f, w.rowIs g e N f := by
  rcases h.2 with ⟨h1, _⟩ | ⟨g', cap', cur, h1, h2, h3, _⟩
  · cases h1
  · cases h1
    exact ⟨cur.size, fun i => cur.getD i undef, cur, h3, rfl, fun i hi => by simp [Array.getD, hi]⟩
def ZPostT (w : World) (z : Int) (e : Ending) (w' : World) : Prop := ∃ v, e = .returned v ∧ ZAt w' v z ∧ ZTy w' v ∧ Kept w w'
theorem lean_ty (w : World) (m : Bool) (s : Value) (l : Nat) (D : Nat → Int) (hS : SlAt w s l D) (hD : DigZ D l) (hl : l ≤ 100000) (hb : valZ D l < bigN) :
    Calls Tryz.prog 101 #[.agg #[.bool m, s]] w (ZPostT w (sgnZ m (valZ D l))) := by
  refine (lean_full w m s l D hS hD hl hb).mono ?_
  rintro e w' ⟨m2, s2, n, D2, rfl, h1, h2, h3, h4, h5, h6⟩
  obtain ⟨a, c, rfl, _, _, _, hg⟩ := own_form h1
  refine ⟨_, rfl, ⟨m2, _, n, D2, rfl, SlAt.of_own h1, h2, h3, h4, h5⟩, ⟨m2, a, n, c, rfl, fun hn => ?_⟩, h6⟩
  obtain ⟨g, rfl, _⟩ := hg hn
  obtain ⟨N, f, hr⟩ := own_rowIs h1
  exact ⟨g, 0, N, f, rfl, hr⟩
theorem ty_own {w : World} {base : Nat} {a : Option Addr} {n c : Nat} {xs : List Value} (h : w.ownsRow base 3 1 (.slice a n c) n xs) (m : Bool) : ZTy w (.agg #[.bool m, .slice a n c]) := by
  obtain ⟨a', c', e, _, _, _, hg⟩ := own_form h
  injection e with e1 e2 e3
  subst e1
  subst e3
  refine ⟨m, a, n, c, rfl, fun hn => ?_⟩
  obtain ⟨g, rfl, _⟩ := hg hn
  obtain ⟨N, f, hr⟩ := own_rowIs h
  exact ⟨g, 0, N, f, rfl, hr⟩
end Go.Proofs.YtlnlddnjalfamaaGreatDoor.Num
