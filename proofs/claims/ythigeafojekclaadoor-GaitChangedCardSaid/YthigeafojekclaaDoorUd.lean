/-
  The reference's numbers: long division.
-/
import Derived.Test.YthigeafojekclaaDoorUc
namespace Go.Proofs.YthigeafojekclaaDoor.Num
open Go.RowKit Go.Deep

/-- the value of the top t of l digits -/
def hiV (D : Nat → Int) (l : Nat) : Nat → Int
  | 0 => 0
  | t + 1 => hiV D l t * 10000 + D (l - 1 - t)
theorem hiV_split {D : Nat → Int} {l : Nat} (t : Nat) (ht : t ≤ l) : valZ D l = hiV D l t * 10000 ^ (l - t) + valZ D (l - t) := by
  induction t with
  | zero => simp [hiV]
  | succ t ih =>
    have h1 := ih (by omega)
    obtain ⟨k, hk⟩ : ∃ k, l - t = k + 1 := ⟨l - t - 1, by omega⟩
    rw [hk] at h1
    have e1 : l - (t + 1) = k := by omega
    have e2 : l - 1 - t = k := by omega
    rw [e1]
    simp only [hiV, valZ, e2, pw_succ] at h1 ⊢
    rw [h1]
    grind
theorem hiV_all {D : Nat → Int} {l : Nat} : hiV D l l = valZ D l := by
  have := hiV_split (D := D) (l := l) l (Nat.le_refl _)
  rw [Nat.sub_self] at this
  simp [valZ] at this
  exact this.symm
theorem hiV_congr {D E : Nat → Int} {l : Nat} (t : Nat) (ht : t ≤ l) (h : ∀ i, l - t ≤ i → i < l → D i = E i) : hiV D l t = hiV E l t := by
  induction t with
  | zero => rfl
  | succ t ih =>
    simp only [hiV]
    rw [ih (by omega) (fun i a b => h i (by omega) b), h (l - 1 - t) (by omega) (by omega)]
/-- a digit in front -/
def consZ (x : Int) (R : Nat → Int) : Nat → Int := fun j => if j = 0 then x else R (j - 1)
theorem valZ_cons (x : Int) (R : Nat → Int) (n : Nat) : valZ (consZ x R) (n + 1) = x + 10000 * valZ R n := by
  induction n with
  | zero => simp [valZ, consZ]
  | succ n ih =>
    have e : valZ (consZ x R) (n + 1 + 1) = valZ (consZ x R) (n + 1) + consZ x R (n + 1) * 10000 ^ (n + 1) := rfl
    have e2 : consZ x R (n + 1) = R n := by simp [consZ]
    have e3 : valZ R (n + 1) = valZ R n + R n * 10000 ^ n := rfl
    rw [e, ih, e2, e3, pw_succ]
    grind
theorem dig_cons {x : Int} {R : Nat → Int} {n : Nat} (hx : 0 ≤ x ∧ x < 10000) (hR : DigZ R n) : DigZ (consZ x R) (n + 1) := fun i hi => by
  unfold consZ
  by_cases e : i = 0
  · rw [if_pos e]; exact hx
  · rw [if_neg e]; exact hR (i - 1) (by omega)
/-- a digit more of the quotient -/
theorem div_step {A Qh y r x q r' : Int} (h : Qh * y + r = A) (hr : q * y + r' = x + 10000 * r) : (Qh * 10000 + q) * y + r' = A * 10000 + x := by
  grind
theorem zfield (m : Bool) (a : Option Addr) (l c : Nat) (w : World) : (Instr.field 37 (.agg #[.bool m, .slice a l c]) 1).run Tryd.prog w = .ok (.slice a l c) w := by
  first | kernel_rfl | rfl | (go_simp; done)
def SlPost (w : World) (x : Int) (e : Ending) (w' : World) : Prop := ∃ v n O, e = .returned v ∧ SlAt w' v n O ∧ LeanZ O n ∧ valZ O n = x ∧ n ≤ 1000 ∧ Kept w w'
theorem ZAt.of_sl {w : World} {s : Value} {n : Nat} {D : Nat → Int} (h : SlAt w s n D) (hL : LeanZ D n) (hn : n ≤ 1000) : ZAt w (.agg #[.bool false, s]) (valZ D n) :=
  ⟨false, s, n, D, rfl, h, hL, (fun h => by cases h), rfl, hn⟩
theorem ZAt.pos {w : World} {m : Bool} {s : Value} {z : Int} (h : ZAt w (.agg #[.bool m, s]) z) (hz : 0 ≤ z) : m = false ∧ ∃ n O, SlAt w s n O ∧ LeanZ O n ∧ valZ O n = z ∧ n ≤ 1000 := by
  obtain ⟨m', s', n, D, e, hS, hL, hm, hv, hn⟩ := h
  injection e with e
  injection e with e
  injection e with e1 e2
  injection e1 with e1
  injection e2 with e2 _
  subst e1
  subst e2
  have hb := valZ_bd hL.1
  cases m
  · exact ⟨rfl, n, D, hS, hL, hv.symm, hn⟩
  · exfalso
    have h1 := hm rfl
    have h2 := lean_zero hL
    have h3 : valZ D n ≠ 0 := fun h => by have := h2.1 h; omega
    have h4 : z = - valZ D n := hv
    omega
theorem sl_pad {w : World} {s : Value} {n : Nat} {D : Nat → Int} (h : SlAt w s n D) : ∃ a c, s = .slice a n c := by
  obtain ⟨a, c, e, _⟩ := h
  exact ⟨a, c, e⟩
set_option maxRecDepth 100000 in
set_option maxHeartbeats 4000000 in
theorem times_any (w : World) (s : Value) (n : Nat) (D : Nat → Int) (d : Int) (hS : SlAt w s n D) (hL : LeanZ D n) (hn : n ≤ 1000) (hd : 0 ≤ d ∧ d ≤ 10000) (hB : valZ D n * 10000 < bigN) :
    Calls Tryd.prog 70 #[s, .int .i64 d] w (SlPost w (valZ D n * d)) := by
  have hb := valZ_bd hL.1
  have hp : 0 ≤ valZ D n * d := Int.mul_nonneg hb.1 hd.1
  have hq : valZ D n * d ≤ valZ D n * 10000 := Int.mul_le_mul_of_nonneg_left hd.2 hb.1
  have hbig : Big (valZ D n * d) := ⟨by omega, by omega⟩
  have HZ := Lib.hid (ZAt.of_sl hS hL hn)
  obtain ⟨a, c, rfl⟩ := sl_pad hS
  obtain ⟨P, HP⟩ : ∃ P, Hid (P = valZ D n * d) := ⟨_, rfl⟩
  have HB := Lib.hid hbig
  have HPP : Hid (0 ≤ P ∧ P < bigN) := by show _ ∧ _; rw [HP.out]; exact ⟨hp, by omega⟩
  rw [← HP.out]
  obtain ⟨d0, d1⟩ := hd
  clear hS hL hb hp hq hbig hB
  go_enter Tryd.func70, Tryd.ntmps70
  go_wp2_with fail
  refine (Int_any _ d (by omega) (by omega)).mono ?_
  rintro e w1 ⟨v1, rfl, hz1, hk1⟩
  obtain ⟨m1, a1, l1, c1, rfl⟩ := hz1.shape
  have HZ1 := Lib.hid hz1
  clear hz1
  go_wp2_with fail
  refine (Mul_any _ _ _ (valZ D n) d (HZ.out.kept hk1) HZ1.out HB.out).mono ?_
  rw [← HP.out]
  rintro e w2 ⟨v2, rfl, hz2, hk2⟩
  obtain ⟨m2, a2, l2, c2, rfl⟩ := hz2.shape
  obtain ⟨rfl, n2, O2, hS2, hL2, hv2, hn2⟩ := hz2.pos HPP.out.1
  obtain ⟨a2', c2', e2⟩ := sl_pad hS2
  injection e2 with e3 e4 e5
  subst e4
  have HS2 := Lib.hid hS2
  have HL2 := Lib.hid hL2
  have HV2 := Lib.hid hv2
  clear hS2 hL2 hv2 hz2 e3 e5
  go_wp2_with fail
  refine (lean_any _ false _ l2 O2 HS2.out HL2.out.1 (by omega) (by rw [HV2.out]; exact HPP.out.2)).mono ?_
  rw [HV2.out]
  rintro e w3 ⟨v3, rfl, hz3, hk3⟩
  obtain ⟨m3, a3, l3, c3, rfl⟩ := hz3.shape
  obtain ⟨rfl, n3, O3, hS3, hL3, hv3, hn3⟩ := hz3.pos HPP.out.1
  obtain ⟨a3', c3', e6⟩ := sl_pad hS3
  injection e6 with e7 e8 e9
  subst e8
  have hK := (hk1.trans hk2).trans hk3
  have HF := Lib.hid (And.intro hS3 (And.intro hL3 (And.intro hv3 hn3)))
  have hfl := zfield false a3 l3 c3 w3
  clear hS3 hL3 hv3 hz3 e7 e9 hn3
  go_wp2_with fail
  go_ret
  exact ⟨_, _, O3, rfl, HF.out.1, HF.out.2.1, HF.out.2.2.1, HF.out.2.2.2, hK⟩
theorem cmpI_le {x y : Int} (h : x ≤ y) : cmpI x y ≤ 0 := by
  unfold cmpI
  by_cases e : x < y
  · rw [if_pos e]; omega
  · rw [if_neg e, if_neg (by omega)]; omega
theorem pos_of {m : Bool} {n : Nat} {D : Nat → Int} {z : Int} (hL : LeanZ D n) (hm : m = true → 0 < n) (hv : z = sgnZ m (valZ D n)) (hz : 0 ≤ z) : m = false ∧ valZ D n = z := by
  have hb := valZ_bd hL.1
  cases m
  · exact ⟨rfl, hv.symm⟩
  · exfalso
    have h1 := hm rfl
    have h2 := lean_zero hL
    have h3 : valZ D n ≠ 0 := fun h => by have := h2.1 h; omega
    have h4 : z = - valZ D n := hv
    omega
theorem ints_cons (x : Int) (R : Nat → Int) (n : Nat) : ints (consZ x R) (n + 1) = ints (fun _ => x) 1 ++ ints R n := by
  unfold ints
  rw [List.range_succ_eq_map]
  simp [consZ, Function.comp_def]
theorem ints_lit (w : World) (base s : Nat) (x : Int) (hs : w.heap.size = s) (hb : base ≤ s) : (w.alloc (.cells #[.int .i64 x] 3)).ownsRow base 3 1 (.slice (some ⟨s, 0, none⟩) 1 1) 1 (ints (fun _ => x) 1) := by
  subst hs
  exact own_base (World.ownsRow_lit _ #[.int .i64 x] 1 (Nat.le_refl _) (by decide) rfl) hb
/-- what is left lies in memory above the row o -/
def RestAt2 (o : Nat) (w : World) (v : Value) (n : Nat) (R : Nat → Int) : Prop := ∃ base, o < base ∧ w.ownsRow base 3 1 v n (ints R n) ∧ LeanZ R n ∧ n ≤ 1000
/-- after t digits -/
structure DivIn (l t : Nat) (y : Int) (D Q : Nat → Int) (r : Int) : Prop where
  dig : ∀ j, j < l → 0 ≤ Q j ∧ Q j < 10000
  val : hiV Q l t * y + r = hiV D l t
  rest : 0 ≤ r ∧ r < y
theorem DivIn.step {l t : Nat} {y r r' lo : Int} {D Q : Nat → Int} (h : DivIn l t y D Q r) (ht : t < l) (_ht2 : t + 1 ≤ l) (hlo : 0 ≤ lo ∧ lo < 10000) (hr : 0 ≤ r' ∧ r' < y) (he : lo * y + r' = D (l - 1 - t) + 10000 * r) : DivIn l (t + 1) y D (fun j => if j = l - 1 - t then lo else Q j) r' where
  dig := fun j hj => by
    by_cases e : j = l - 1 - t
    · simp only [e, if_true]; exact hlo
    · simp only [e, if_false]; exact h.dig j hj
  val := by
    have h1 := h.val
    have e1 : hiV (fun j => if j = l - 1 - t then lo else Q j) l t = hiV Q l t := hiV_congr t (by omega) (fun i a b => if_neg (by omega))
    simp only [hiV, if_true]
    rw [e1]
    exact div_step h1 he
  rest := hr
def DivPost (w : World) (q r : Int) (e : Ending) (w' : World) : Prop := ∃ u v, e = .returned (.tuple #[u, v]) ∧ ZAt w' u q ∧ ZAt w' v r ∧ Kept w w'
set_option maxRecDepth 100000 in
set_option maxHeartbeats 16000000 in
theorem DivMod_any (w : World) (u v : Value) (x y : Int) (hX : ZAt w u x) (hY : ZAt w v y) (hx0 : 0 ≤ x) (hy0 : 0 < y) (hB : y * 10000 < bigN) (hxB : x < bigN) :
    Calls Tryd.prog 49 #[u, v] w (DivPost w (x / y) (x % y)) := by
  obtain ⟨i0, hi, hz0, hz1, hz2⟩ := info_parts Tryd.info3
  obtain ⟨m, a, l, cap, rfl⟩ := hX.shape
  obtain ⟨m2, a2, l2, cap2, rfl⟩ := hY.shape
  obtain ⟨rfl, l', D, hS, hL, hvx, hl⟩ := hX.pos hx0
  obtain ⟨rfl, l2', D2, hS2, hL2, hvy, hl2⟩ := hY.pos (by omega)
  obtain ⟨_, _, e1⟩ := sl_pad hS
  obtain ⟨_, _, e2⟩ := sl_pad hS2
  injection e1 with q1 q2 q3
  injection e2 with q4 q5 q6
  subst q2
  subst q5
  clear q1 q3 q4 q6
  have HS := Lib.hid hS
  have HL := Lib.hid hL
  have HS2 := Lib.hid hS2
  have HL2 := Lib.hid hL2
  have HVX := Lib.hid hvx
  have HY2 := Lib.hid hvy
  have HBY : Hid (valZ D2 l2 * 10000 < bigN) := by show _ < _; rw [hvy]; exact hB
  have HBY2 := Lib.hid hB
  have HXB := Lib.hid hxB
  obtain ⟨_, _, e3, _, hnil, _, ⟨a', b1, o1, cap', e4, ha, hc⟩⟩ := hS
  cases e3
  cases e4
  have HC := Lib.hid hc
  clear hL hS2 hL2 hvx hvy hX hY hB hxB hc
  have hmk := fun W => mkInts (l : Int) l rfl (by omega) W
  have hA0 := box_row w (.bool false) (.slice a l cap) 37 w.heap.size rfl
  have hA1 := box_row (w.alloc (.cells #[.bool false, .slice a l cap] 37)) (.bool false) (.slice a2 l2 cap2) 37 (w.heap.size + 1) (by simp)
  have hA2 := box_row ((w.alloc (.cells #[.bool false, .slice a l cap] 37)).alloc (.cells #[.bool false, .slice a2 l2 cap2] 37)) (.bool false) (.slice none 0 0) 37 (w.heap.size + 1 + 1) (by simp)
  have hA3 := box_row (((w.alloc (.cells #[.bool false, .slice a l cap] 37)).alloc (.cells #[.bool false, .slice a2 l2 cap2] 37)).alloc (.cells #[.bool false, .slice none 0 0] 37)) (.bool false) (.slice none 0 0) 37 (w.heap.size + 1 + 1 + 1) (by simp)
  have hA4 := World.rowIs_made ((((w.alloc (.cells #[.bool false, .slice a l cap] 37)).alloc (.cells #[.bool false, .slice a2 l2 cap2] 37)).alloc (.cells #[.bool false, .slice none 0 0] 37)).alloc (.cells #[.bool false, .slice none 0 0] 37)) (.int .i64 0) l 3
  rw [show ((((w.alloc (.cells #[.bool false, .slice a l cap] 37)).alloc (.cells #[.bool false, .slice a2 l2 cap2] 37)).alloc (.cells #[.bool false, .slice none 0 0] 37)).alloc (.cells #[.bool false, .slice none 0 0] 37)).heap.size = w.heap.size + 1 + 1 + 1 + 1 by simp] at hA4
  have hA5 := own_zeroT (((((w.alloc (.cells #[.bool false, .slice a l cap] 37)).alloc (.cells #[.bool false, .slice a2 l2 cap2] 37)).alloc (.cells #[.bool false, .slice none 0 0] 37)).alloc (.cells #[.bool false, .slice none 0 0] 37)).alloc (.cells (madeCells #[.int .i64 0] l) 3)) (((((w.alloc (.cells #[.bool false, .slice a l cap] 37)).alloc (.cells #[.bool false, .slice a2 l2 cap2] 37)).alloc (.cells #[.bool false, .slice none 0 0] 37)).alloc (.cells #[.bool false, .slice none 0 0] 37)).alloc (.cells (madeCells #[.int .i64 0] l) 3)).heap.size 3 1 (Nat.le_refl _)
  rw [show (((((w.alloc (.cells #[.bool false, .slice a l cap] 37)).alloc (.cells #[.bool false, .slice a2 l2 cap2] 37)).alloc (.cells #[.bool false, .slice none 0 0] 37)).alloc (.cells #[.bool false, .slice none 0 0] 37)).alloc (.cells (madeCells #[.int .i64 0] l) 3)).heap.size = w.heap.size + 1 + 1 + 1 + 1 + 1 by simp] at hA5
  have k5 := (Kept.refl (((((w.alloc (.cells #[.bool false, .slice a l cap] 37)).alloc (.cells #[.bool false, .slice a2 l2 cap2] 37)).alloc (.cells #[.bool false, .slice none 0 0] 37)).alloc (.cells #[.bool false, .slice none 0 0] 37)).alloc (.cells (madeCells #[.int .i64 0] l) 3))).alloc (.cells #[] 3)
  have k4 := ((Kept.refl ((((w.alloc (.cells #[.bool false, .slice a l cap] 37)).alloc (.cells #[.bool false, .slice a2 l2 cap2] 37)).alloc (.cells #[.bool false, .slice none 0 0] 37)).alloc (.cells #[.bool false, .slice none 0 0] 37))).alloc (.cells (madeCells #[.int .i64 0] l) 3)).trans k5
  have k3 := ((Kept.refl (((w.alloc (.cells #[.bool false, .slice a l cap] 37)).alloc (.cells #[.bool false, .slice a2 l2 cap2] 37)).alloc (.cells #[.bool false, .slice none 0 0] 37))).alloc (.cells #[.bool false, .slice none 0 0] 37)).trans k4
  have k2 := ((Kept.refl ((w.alloc (.cells #[.bool false, .slice a l cap] 37)).alloc (.cells #[.bool false, .slice a2 l2 cap2] 37))).alloc (.cells #[.bool false, .slice none 0 0] 37)).trans k3
  have k1 := ((Kept.refl (w.alloc (.cells #[.bool false, .slice a l cap] 37))).alloc (.cells #[.bool false, .slice a2 l2 cap2] 37)).trans k2
  have hK0 := ((Kept.refl w).alloc (.cells #[.bool false, .slice a l cap] 37)).trans k1
  have hZ0 := k1.row hA0
  have hY0 := k2.row hA1
  have hR00 := k3.row hA2
  have hR10 := k4.row hA3
  have hQ0 := (k5.row hA4).congr (g := fun j => .int .i64 ((fun _ : Nat => (0 : Int)) j)) (fun j _ => rfl)
  go_enter Tryd.func49, Tryd.ntmps49
  go_wp2_with fail
  generalize ((((((w.alloc (.cells #[.bool false, .slice a l cap] 37)).alloc (.cells #[.bool false, .slice a2 l2 cap2] 37)).alloc (.cells #[.bool false, .slice none 0 0] 37)).alloc (.cells #[.bool false, .slice none 0 0] 37)).alloc (.cells (madeCells #[.int .i64 0] l) 3)).alloc (.cells #[] 3)) = W at *
  obtain ⟨b0, HB0⟩ : ∃ o0, Hid (o0 = w.heap.size + 1 + 1 + 1 + 1 + 1) := ⟨_, rfl⟩
  obtain ⟨o0, HO0⟩ : ∃ o0, Hid (o0 = w.heap.size + 1 + 1 + 1 + 1) := ⟨_, rfl⟩
  obtain ⟨r1, HR1⟩ : ∃ o0, Hid (o0 = w.heap.size + 1 + 1 + 1) := ⟨_, rfl⟩
  obtain ⟨r0, HR0⟩ : ∃ o0, Hid (o0 = w.heap.size + 1 + 1) := ⟨_, rfl⟩
  obtain ⟨z1, HZ1⟩ : ∃ o0, Hid (o0 = w.heap.size + 1) := ⟨_, rfl⟩
  obtain ⟨z0, HZ0⟩ : ∃ o0, Hid (o0 = w.heap.size) := ⟨_, rfl⟩
  rw [← HB0.out] at hA5 ⊢
  rw [← HO0.out] at hQ0 ⊢
  rw [← HR1.out] at hR10 ⊢
  rw [← HR0.out] at hR00 ⊢
  rw [← HZ1.out] at hY0 ⊢
  rw [← HZ0.out] at hZ0 ⊢
  have how : w.heap.size ≤ o0 := by rw [HO0.out]; omega
  have hrw : w.heap.size ≤ r0 := by rw [HR0.out]; omega
  have hrw1 : w.heap.size ≤ r1 := by rw [HR1.out]; omega
  have hzo : z0 ≠ o0 := by rw [HO0.out, HZ0.out]; omega
  have hyo : z1 ≠ o0 := by rw [HO0.out, HZ1.out]; omega
  have hro : r0 ≠ o0 := by rw [HO0.out, HR0.out]; omega
  have hro1 : r1 ≠ o0 := by rw [HO0.out, HR1.out]; omega
  have hrr : r0 ≠ r1 := by rw [HR1.out, HR0.out]; omega
  have hR20 : Hid (RestAt2 o0 W (.slice (some ⟨b0, 0, none⟩) 0 0) 0 (fun _ => 0)) := ⟨b0, by rw [HB0.out, HO0.out]; omega, hA5, ⟨fun i h => by omega, fun h => by omega⟩, by omega⟩
  have hDI0 : Hid (DivIn l 0 y D (fun _ => 0) (valZ (fun _ => 0) 0)) := ⟨fun j _ => ⟨by omega, by omega⟩, by simp [hiV, valZ], by simp [valZ]; exact hy0⟩
  clear hA0 hA1 hA2 hA3 hA4 hA5 hmk k1 k2 k3 k4 k5 HB0 HO0 HR1 HR0 HZ1 HZ0
  go_loopg [7, 8] l (fun g s7 s8 wr => ∃ (t n : Nat) (R Q : Nat → Int), t ≤ l ∧ g = l - t ∧ s8 = .int .i64 ((l : Int) - 1 - t) ∧ Kept w wr ∧ wr.rowIs z0 37 2 (bx (.bool false) (.slice a l cap)) ∧ wr.rowIs z1 37 2 (bx (.bool false) (.slice a2 l2 cap2)) ∧ wr.rowIs r0 37 2 (bx (.bool false) (.slice none 0 0)) ∧ wr.rowIs r1 37 2 (bx (.bool false) (.slice none 0 0)) ∧ wr.rowIs o0 3 l (fun j => .int .i64 (Q j)) ∧ Hid (RestAt2 o0 wr s7 n R) ∧ Hid (DivIn l t y D Q (valZ R n)))
  case atStart => exact ⟨0, 0, fun _ => 0, fun _ => 0, Nat.zero_le _, rfl, by go_num, hK0, hZ0, hY0, hR00, hR10, hQ0, hR20.out, hDI0.out⟩
  case round =>
    clear hK0 hZ0 hY0 hR00 hR10 hQ0 hR20 hDI0
    obtain ⟨t, n, R, Q, ht, rfl, rfl, hK, hZ, hY, hR0, hR1, hQr, hRest, hDI⟩ := hrel
    obtain ⟨base, hbase, hRO, hRL, hn1000⟩ := hRest.out
    clear hRest
    obtain ⟨ra0, rcap, rfl, hrcap, hrnil, _, hrg⟩ := own_form hRO
    by_cases hlt : t < l
    · obtain ⟨c, hcc⟩ : ∃ c, c = l - 1 - t := ⟨_, rfl⟩
      have ec : (l : Int) - 1 - (t : Int) = (c : Int) := by omega
      obtain rfl := ha (by omega)
      have t1 := hK.cellSome (HC.out c (by omega))
      have hdc := HL.out.1 c (by omega)
      obtain ⟨x', HXD⟩ : ∃ x', Hid (x' = D c) := ⟨_, rfl⟩
      rw [← HXD.out] at t1 hdc
      have HXDD : Hid (D (l - 1 - t) = x') := by show _ = _; rw [← hcc, HXD.out]
      have hRC : Hid (∀ j, j < n → ∀ ad, ra0 = some ad → wr.cell? (ad.add j) = some (.int .i64 (R j))) := fun j hj ad e => by
        obtain ⟨g, e2, _⟩ := hrg (by omega)
        subst e2
        cases e
        rw [add_at, Nat.zero_add]
        exact ints_cell hRO hj
      obtain ⟨XR, HXR'⟩ : ∃ XR, Hid (XR = x' + 10000 * valZ R n) := ⟨_, rfl⟩
      have hrb := hDI.out.rest
      have HXR0 : Hid (0 ≤ XR) := by show _ ≤ _; rw [HXR'.out]; omega
      have HXR : Hid (XR < 10000 * y) := by show _ < _; rw [HXR'.out]; omega
      have HVC : Hid (valZ (consZ x' R) (n + 1) = XR) := by show _ = _; rw [valZ_cons, HXR'.out]
      have HDC : Hid (DigZ (consZ x' R) (n + 1)) := dig_cons hdc hRL.1
      have HBC : Hid (XR < bigN) := by show _ < _; have := HXR.out; have := HBY2.out; omega
      have HCC := Lib.hid hcc
      have HXRR := HXR'
      have s1 : (c : Int) < (l : Int) := by omega
      have s2 : (0 : Int) ≤ (c : Int) := by omega
      obtain ⟨z00, z01, _, _⟩ := bx_cells hZ
      have hL1 := ints_lit wr wr.heap.size wr.heap.size x' rfl (Nat.le_refl _)
      have hkl := (Kept.refl wr).alloc (.cells #[.int .i64 x'] 3)
      rw [ec]
      clear hcc ec hrb hrg hRO hRL hdc
      cases ra0 with
      | none =>
        obtain rfl := hrnil rfl
        obtain rfl : n = 0 := by omega
        go_wp2_with (first | (at_builtin; refine wpList_append_own_none rfl _ _ 23 rfl wr.heap.size 3 i0 1 Tryd.underlying23 hi _ _ _ rfl hL1 rfl ?_; generalize wr.alloc (.cells #[.int .i64 x'] 3) = w2 at *))
        have hk2 := hkl
        have hS4 : SlAt w2 (.slice (some ⟨wr.heap.size, 0, none⟩) 1 1) (0 + 1) (consZ x' R) := by
          have := SlAt.of_own hL1
          obtain ⟨q1, q2, q3, q4, q5, q6, q7⟩ := this
          exact ⟨q1, q2, q3, q4, q5, q6, q7.congr (fun i hi => by
            obtain rfl : i = 0 := (by omega)
            rfl)⟩
        clear hL1
        refine (lean_full _ false _ (0 + 1) (consZ x' R) hS4 HDC.out (by omega) (by rw [HVC.out]; exact HBC.out)).mono ?_
        rw [HVC.out]
        rintro e w3 ⟨mr, sr, n3, R3, rfl, hO3, hL3, hm3, hv3, hn3, hk3⟩
        obtain ⟨hmf, hv3n⟩ := pos_of (z := XR) hL3 hm3 hv3 HXR0.out
        clear hv3 hm3
        subst hmf
        obtain ⟨ra, rc, rfl, _⟩ := own_form hO3
        have hfl := zfield false ra n3 rc w3
        have hKw3 := hk2.trans hk3
        have hZ3 := hKw3.row hZ
        have hY3 := hKw3.row hY
        have hR03 := hKw3.row hR0
        have hR13 := hKw3.row hR1
        have hQ3 := hKw3.row hQr
        have hK3 := hK.trans hKw3
        have hob : o0 < w2.heap.size := Nat.lt_of_lt_of_le hQr.lt hk2.size
        have HO3 := Lib.hid hO3
        have HL3 := Lib.hid hL3
        have HV3 := Lib.hid hv3n
        have hS3 : Hid (SlAt w3 (.slice ra n3 rc) n3 R3) := SlAt.of_own hO3
        have hIn : Hid (0 * y ≤ XR ∧ XR < 10000 * y) := by show _ ∧ _; have := HXR.out; have := HXR0.out; omega
        clear hO3 hL3 hv3n hS4 hK hKw3 hZ hY hR0 hR1 hQr hk2 hk3 hkl
        go_wp2_with fail
        clear hfl
        go_loopg [9, 10] 10000 (fun g s9 s10 wi => ∃ lo hi : Int, g = (hi - lo).toNat ∧ s9 = .int .i64 lo ∧ s10 = .int .i64 hi ∧ 0 ≤ lo ∧ lo < hi ∧ hi ≤ 10000 ∧ Kept w3 wi ∧ Hid (lo * y ≤ XR ∧ XR < hi * y))
        case atStart => exact ⟨0, 10000, rfl, rfl, rfl, by omega, by omega, by omega, Kept.refl _, hIn.out⟩
        case round =>
          clear hIn
          obtain ⟨lo, hi', rfl, rfl, rfl, lo0, lohi, hi1, hki, hI⟩ := hrel
          by_cases hgo : 1 < hi' - lo
          · obtain ⟨M, HM⟩ : ∃ M, Hid (M = (lo + hi') / 2) := ⟨_, rfl⟩
            have hM1 : lo < M ∧ M < hi' := by rw [HM.out]; omega
            obtain ⟨hM1, hM2⟩ := hM1
            have t1 : Int.tdiv (lo + hi') 2 = M := by rw [HM.out]; exact Int.tdiv_eq_ediv_of_nonneg (by omega)
            obtain ⟨y0, y1, _, _⟩ := bx_cells (hki.row hY3)
            go_wp2_with fail
            refine (times_any _ _ l2 D2 M (HS2.out.kept (hK3.trans hki)) HL2.out (by omega) ⟨by omega, by omega⟩ HBY.out).mono ?_
            rintro e w4 ⟨v4, n4, O4, rfl, hS4, hL4, hv4, hn4, hk4⟩
            rw [HY2.out] at hv4
            obtain ⟨a4, c4, rfl⟩ := sl_pad hS4
            have HV4 := Lib.hid hv4
            have HS4 := Lib.hid hS4
            have HL4 := Lib.hid hL4
            clear hS4 hL4 hv4 t1 y0 y1
            go_wp2_with fail
            refine (sizes_any _ _ _ n4 n3 O4 R3 HS4.out.ints (((hS3.out).kept (hki.trans hk4)).ints) HL4.out HL3.out (by omega) (by omega)).mono ?_
            rw [HV4.out, HV3.out]
            rintro e w5 ⟨rfl, hq5⟩
            have hK5 := (hki.trans hk4).trans hq5.kept
            by_cases hc : y * M ≤ XR
            · have hcc : cmpI (y * M) XR ≤ 0 := cmpI_le hc
              have hI2 : Hid (M * y ≤ XR ∧ XR < hi' * y) := ⟨by rw [Int.mul_comm]; exact hc, hI.out.2⟩
              generalize cmpI (y * M) XR = C at *
              clear hc hI
              go_wp2_with fail
              go_roundg (hi' - M).toNat
              case measure => omega
              case rel => exact ⟨M, hi', rfl, rfl, rfl, by omega, by omega, by omega, hK5, hI2.out⟩
            · have hcc : ¬ cmpI (y * M) XR ≤ 0 := by rw [cmpI_gt (by omega)]; omega
              have hI2 : Hid (lo * y ≤ XR ∧ XR < M * y) := ⟨hI.out.1, by rw [Int.mul_comm]; omega⟩
              generalize cmpI (y * M) XR = C at *
              clear hc hI
              go_wp2_with fail
              go_roundg (M - lo).toNat
              case measure => omega
              case rel => exact ⟨lo, M, rfl, rfl, rfl, by omega, by omega, by omega, hK5, hI2.out⟩
          · obtain rfl : hi' = lo + 1 := by omega
            have hlo1 : lo < 10000 := by omega
            have hle : Hid (y * lo ≤ XR) := by show _ ≤ _; rw [Int.mul_comm]; exact hI.out.1
            have hrb : Hid (0 ≤ XR - y * lo ∧ XR - y * lo < y) := by
              have h1 := hI.out
              rw [Int.add_mul, Int.one_mul, Int.mul_comm lo y] at h1
              show _ ∧ _
              omega
            have hQ4 := hki.row hQ3
            have hZ4 := hki.row hZ3
            have hY4 := hki.row hY3
            have hR04 := hki.row hR03
            have hR14 := hki.row hR13
            have x0 := hQ4.cell (i := c) (by omega)
            have x1 := hQ4.frozen c
            have hO4 := own_kept HO3.out hki
            have hK4 := hK3.trans hki
            have s5 : ¬ (1 : Int) < lo + 1 - lo := by omega
            have hQ5 := (hQ4.set c (.int .i64 lo)).congr (g := fun j => .int .i64 ((fun j => if j = c then lo else Q j) j)) (fun j _ => by
              by_cases e : j = c
              · simp [e]
              · simp [e])
            have hZ5 := hZ4.setOther (a := ⟨o0, c, none⟩) hzo (.int .i64 lo)
            have hY5 := hY4.setOther (a := ⟨o0, c, none⟩) hyo (.int .i64 lo)
            have hR05 := hR04.setOther (a := ⟨o0, c, none⟩) hro (.int .i64 lo)
            have hR15 := hR14.setOther (a := ⟨o0, c, none⟩) hro1 (.int .i64 lo)
            have hK5 : Kept w (wr.setCell ⟨o0, c, none⟩ (.int .i64 lo)) := hK4.setCell how _
            have hO5 := own_keptX hO4 ((KeptX.refl (fun k => k = o0) wr).setIn c (.int .i64 lo)) (fun b h => by omega)
            have hS5 : Hid (SlAt (wr.setCell ⟨o0, c, none⟩ (.int .i64 lo)) (.slice ra n3 rc) n3 R3) := SlAt.of_own hO5
            obtain ⟨y0, y1, _, _⟩ := bx_cells hY5
            clear hQ4 hZ4 hY4 hR04 hR14 hO4 hK4 hO5 hI hki hgo lohi
            go_wp2_with fail
            generalize wr.setCell ⟨o0, c, none⟩ (.int .i64 lo) = W5 at *
            refine (times_any _ _ l2 D2 lo (HS2.out.kept hK5) HL2.out (by omega) ⟨by omega, by omega⟩ HBY.out).mono ?_
            rintro e w6 ⟨v6, n6, O6, rfl, hS6, hL6, hv6, hn6, hk6⟩
            rw [HY2.out] at hv6
            obtain ⟨a6, c6, rfl⟩ := sl_pad hS6
            have hln : n6 ≤ n3 := by
              rcases Nat.lt_or_ge n3 n6 with h | h
              · have := lean_len HL3.out.1 hL6 h
                have h2 := hle.out
                have h3 := HV3.out
                omega
              · exact h
            have hvle : valZ O6 n6 ≤ valZ R3 n3 := by rw [hv6, HV3.out]; exact hle.out
            have HV6 := Lib.hid hv6
            have HS6 := Lib.hid hS6
            have HL6 := Lib.hid hL6
            have HVL := Lib.hid hvle
            clear hS6 hL6 hv6 hvle x0 x1 y0 y1
            go_wp2_with fail
            refine (less_any _ _ _ n3 n6 R3 O6 ((hS5.out.kept hk6).ints) HS6.out.ints HL3.out.1 HL6.out.1 (by omega) hln HVL.out).mono ?_
            rintro e w7 ⟨v7, n7, O7, rfl, hO7, hD7, hv7, hn7, hk7⟩
            rw [HV6.out, HV3.out] at hv7
            obtain ⟨a7, c7, rfl, _⟩ := own_form hO7
            have HS7 := Lib.hid (SlAt.of_own hO7)
            have HD7 := Lib.hid hD7
            have HV7 := Lib.hid hv7
            clear hO7 hD7 hv7
            go_wp2_with fail
            refine (lean_full _ false _ n7 O7 HS7.out HD7.out (by omega) (by rw [HV7.out]; have := hrb.out; have := HBY2.out; omega)).mono ?_
            rw [HV7.out]
            rintro e w8 ⟨m8, s8, n8, R8, rfl, hO8, hL8, hm8, hv8, hn8, hk8⟩
            obtain ⟨hmf, hv8n⟩ := pos_of (z := XR - y * lo) hL8 hm8 hv8 hrb.out.1
            clear hv8 hm8
            subst hmf
            obtain ⟨ra8, rc8, rfl, _⟩ := own_form hO8
            have hfl := zfield false ra8 n8 rc8 w8
            have hk58 := (hk6.trans hk7).trans hk8
            have hob8 : o0 < w7.heap.size := Nat.lt_of_lt_of_le hQ5.lt (hk6.trans hk7).size
            have hfin : Hid (DivIn l (t + 1) y D (fun j => if j = c then lo else Q j) (valZ R8 n8)) := by
              have hst := hDI.out.step (lo := lo) hlt (by have := HCC.out; omega) ⟨lo0, hlo1⟩ (r' := valZ R8 n8) (by rw [hv8n]; exact hrb.out) (by
                have h1 := HXDD.out
                have h2 := HXRR.out
                rw [hv8n, h1, Int.mul_comm lo y]
                omega)
              rw [show l - 1 - t = c by have := HCC.out; omega] at hst
              exact hst
            have hec : (c : Int) - 1 = (l : Int) - 1 - ((t + 1 : Nat) : Int) := by have := HCC.out; omega
            have HEC := Lib.hid hec
            have hrel9 : Hid (RestAt2 o0 w8 (.slice ra8 n8 rc8) n8 R8) := ⟨_, hob8, hO8, hL8, hn8⟩
            clear hO8 hL8 hv8n hec hDI
            go_wp2_with fail
            go_roundg (l - (t + 1))
            case measure => omega
            case rel => exact ⟨t + 1, n8, R8, fun j => if j = c then lo else Q j, by omega, rfl, by rw [← HEC.out], hK5.trans hk58, hk58.row hZ5, hk58.row hY5, hk58.row hR05, hk58.row hR15, hk58.row hQ5, hrel9.out, hfin.out⟩
      | some ad =>
        go_wp2_with (first | (at_builtin; refine wpList_append_own _ rfl _ _ 23 rfl wr.heap.size 3 i0 (.int .i64 0) 1 8 Tryd.underlying23 hi hz0 hz1 hz2 rfl (by decide) _ _ _ rfl hL1 ad n rcap (ints R n) rfl (by simp [ints]) ?c1 ?c2 ?c3 ?c4 ?c5 ?_))
        case c1 => exact fun j u h => by obtain ⟨h1, rfl⟩ := ints_get h; exact hkl.cellSome (hRC.out j h1 _ rfl)
        case c2 => intro u hu; simp [ints] at hu; obtain ⟨i, _, rfl⟩ := hu; rfl
        case c3 => unfold maxLen; omega
        case c4 => omega
        intro v' w2 hO3 hgr _
        have hX2 := grew_X hgr hL1
        have hk2 : Kept wr w2 := hkl.step hX2 (fun i hi => hi)
        have hO4 : w2.ownsRow wr.heap.size 3 1 v' (n + 1) (ints (consZ x' R) (n + 1)) := by rw [ints_cons, Nat.add_comm n 1]; simpa using hO3
        obtain ⟨va, vc, rfl, _⟩ := own_form hO4
        have hS4 := SlAt.of_own hO4
        clear hO3 hX2 hgr hO4 hL1
        go_wp2_with fail
        refine (lean_full _ false _ (n + 1) (consZ x' R) hS4 HDC.out (by omega) (by rw [HVC.out]; exact HBC.out)).mono ?_
        rw [HVC.out]
        rintro e w3 ⟨mr, sr, n3, R3, rfl, hO3, hL3, hm3, hv3, hn3, hk3⟩
        obtain ⟨hmf, hv3n⟩ := pos_of (z := XR) hL3 hm3 hv3 HXR0.out
        clear hv3 hm3
        subst hmf
        obtain ⟨ra, rc, rfl, _⟩ := own_form hO3
        have hfl := zfield false ra n3 rc w3
        have hKw3 := hk2.trans hk3
        have hZ3 := hKw3.row hZ
        have hY3 := hKw3.row hY
        have hR03 := hKw3.row hR0
        have hR13 := hKw3.row hR1
        have hQ3 := hKw3.row hQr
        have hK3 := hK.trans hKw3
        have hob : o0 < w2.heap.size := Nat.lt_of_lt_of_le hQr.lt hk2.size
        have HO3 := Lib.hid hO3
        have HL3 := Lib.hid hL3
        have HV3 := Lib.hid hv3n
        have hS3 : Hid (SlAt w3 (.slice ra n3 rc) n3 R3) := SlAt.of_own hO3
        have hIn : Hid (0 * y ≤ XR ∧ XR < 10000 * y) := by show _ ∧ _; have := HXR.out; have := HXR0.out; omega
        clear hO3 hL3 hv3n hS4 hK hKw3 hZ hY hR0 hR1 hQr hk2 hk3 hkl
        go_wp2_with fail
        clear hfl
        go_loopg [9, 10] 10000 (fun g s9 s10 wi => ∃ lo hi : Int, g = (hi - lo).toNat ∧ s9 = .int .i64 lo ∧ s10 = .int .i64 hi ∧ 0 ≤ lo ∧ lo < hi ∧ hi ≤ 10000 ∧ Kept w3 wi ∧ Hid (lo * y ≤ XR ∧ XR < hi * y))
        case atStart => exact ⟨0, 10000, rfl, rfl, rfl, by omega, by omega, by omega, Kept.refl _, hIn.out⟩
        case round =>
          clear hIn
          obtain ⟨lo, hi', rfl, rfl, rfl, lo0, lohi, hi1, hki, hI⟩ := hrel
          by_cases hgo : 1 < hi' - lo
          · obtain ⟨M, HM⟩ : ∃ M, Hid (M = (lo + hi') / 2) := ⟨_, rfl⟩
            have hM1 : lo < M ∧ M < hi' := by rw [HM.out]; omega
            obtain ⟨hM1, hM2⟩ := hM1
            have t1 : Int.tdiv (lo + hi') 2 = M := by rw [HM.out]; exact Int.tdiv_eq_ediv_of_nonneg (by omega)
            obtain ⟨y0, y1, _, _⟩ := bx_cells (hki.row hY3)
            go_wp2_with fail
            refine (times_any _ _ l2 D2 M (HS2.out.kept (hK3.trans hki)) HL2.out (by omega) ⟨by omega, by omega⟩ HBY.out).mono ?_
            rintro e w4 ⟨v4, n4, O4, rfl, hS4, hL4, hv4, hn4, hk4⟩
            rw [HY2.out] at hv4
            obtain ⟨a4, c4, rfl⟩ := sl_pad hS4
            have HV4 := Lib.hid hv4
            have HS4 := Lib.hid hS4
            have HL4 := Lib.hid hL4
            clear hS4 hL4 hv4 t1 y0 y1
            go_wp2_with fail
            refine (sizes_any _ _ _ n4 n3 O4 R3 HS4.out.ints (((hS3.out).kept (hki.trans hk4)).ints) HL4.out HL3.out (by omega) (by omega)).mono ?_
            rw [HV4.out, HV3.out]
            rintro e w5 ⟨rfl, hq5⟩
            have hK5 := (hki.trans hk4).trans hq5.kept
            by_cases hc : y * M ≤ XR
            · have hcc : cmpI (y * M) XR ≤ 0 := cmpI_le hc
              have hI2 : Hid (M * y ≤ XR ∧ XR < hi' * y) := ⟨by rw [Int.mul_comm]; exact hc, hI.out.2⟩
              generalize cmpI (y * M) XR = C at *
              clear hc hI
              go_wp2_with fail
              go_roundg (hi' - M).toNat
              case measure => omega
              case rel => exact ⟨M, hi', rfl, rfl, rfl, by omega, by omega, by omega, hK5, hI2.out⟩
            · have hcc : ¬ cmpI (y * M) XR ≤ 0 := by rw [cmpI_gt (by omega)]; omega
              have hI2 : Hid (lo * y ≤ XR ∧ XR < M * y) := ⟨hI.out.1, by rw [Int.mul_comm]; omega⟩
              generalize cmpI (y * M) XR = C at *
              clear hc hI
              go_wp2_with fail
              go_roundg (M - lo).toNat
              case measure => omega
              case rel => exact ⟨lo, M, rfl, rfl, rfl, by omega, by omega, by omega, hK5, hI2.out⟩
          · obtain rfl : hi' = lo + 1 := by omega
            have hlo1 : lo < 10000 := by omega
            have hle : Hid (y * lo ≤ XR) := by show _ ≤ _; rw [Int.mul_comm]; exact hI.out.1
            have hrb : Hid (0 ≤ XR - y * lo ∧ XR - y * lo < y) := by
              have h1 := hI.out
              rw [Int.add_mul, Int.one_mul, Int.mul_comm lo y] at h1
              show _ ∧ _
              omega
            have hQ4 := hki.row hQ3
            have hZ4 := hki.row hZ3
            have hY4 := hki.row hY3
            have hR04 := hki.row hR03
            have hR14 := hki.row hR13
            have x0 := hQ4.cell (i := c) (by omega)
            have x1 := hQ4.frozen c
            have hO4 := own_kept HO3.out hki
            have hK4 := hK3.trans hki
            have s5 : ¬ (1 : Int) < lo + 1 - lo := by omega
            have hQ5 := (hQ4.set c (.int .i64 lo)).congr (g := fun j => .int .i64 ((fun j => if j = c then lo else Q j) j)) (fun j _ => by
              by_cases e : j = c
              · simp [e]
              · simp [e])
            have hZ5 := hZ4.setOther (a := ⟨o0, c, none⟩) hzo (.int .i64 lo)
            have hY5 := hY4.setOther (a := ⟨o0, c, none⟩) hyo (.int .i64 lo)
            have hR05 := hR04.setOther (a := ⟨o0, c, none⟩) hro (.int .i64 lo)
            have hR15 := hR14.setOther (a := ⟨o0, c, none⟩) hro1 (.int .i64 lo)
            have hK5 : Kept w (wr.setCell ⟨o0, c, none⟩ (.int .i64 lo)) := hK4.setCell how _
            have hO5 := own_keptX hO4 ((KeptX.refl (fun k => k = o0) wr).setIn c (.int .i64 lo)) (fun b h => by omega)
            have hS5 : Hid (SlAt (wr.setCell ⟨o0, c, none⟩ (.int .i64 lo)) (.slice ra n3 rc) n3 R3) := SlAt.of_own hO5
            obtain ⟨y0, y1, _, _⟩ := bx_cells hY5
            clear hQ4 hZ4 hY4 hR04 hR14 hO4 hK4 hO5 hI hki hgo lohi
            go_wp2_with fail
            generalize wr.setCell ⟨o0, c, none⟩ (.int .i64 lo) = W5 at *
            refine (times_any _ _ l2 D2 lo (HS2.out.kept hK5) HL2.out (by omega) ⟨by omega, by omega⟩ HBY.out).mono ?_
            rintro e w6 ⟨v6, n6, O6, rfl, hS6, hL6, hv6, hn6, hk6⟩
            rw [HY2.out] at hv6
            obtain ⟨a6, c6, rfl⟩ := sl_pad hS6
            have hln : n6 ≤ n3 := by
              rcases Nat.lt_or_ge n3 n6 with h | h
              · have := lean_len HL3.out.1 hL6 h
                have h2 := hle.out
                have h3 := HV3.out
                omega
              · exact h
            have hvle : valZ O6 n6 ≤ valZ R3 n3 := by rw [hv6, HV3.out]; exact hle.out
            have HV6 := Lib.hid hv6
            have HS6 := Lib.hid hS6
            have HL6 := Lib.hid hL6
            have HVL := Lib.hid hvle
            clear hS6 hL6 hv6 hvle x0 x1 y0 y1
            go_wp2_with fail
            refine (less_any _ _ _ n3 n6 R3 O6 ((hS5.out.kept hk6).ints) HS6.out.ints HL3.out.1 HL6.out.1 (by omega) hln HVL.out).mono ?_
            rintro e w7 ⟨v7, n7, O7, rfl, hO7, hD7, hv7, hn7, hk7⟩
            rw [HV6.out, HV3.out] at hv7
            obtain ⟨a7, c7, rfl, _⟩ := own_form hO7
            have HS7 := Lib.hid (SlAt.of_own hO7)
            have HD7 := Lib.hid hD7
            have HV7 := Lib.hid hv7
            clear hO7 hD7 hv7
            go_wp2_with fail
            refine (lean_full _ false _ n7 O7 HS7.out HD7.out (by omega) (by rw [HV7.out]; have := hrb.out; have := HBY2.out; omega)).mono ?_
            rw [HV7.out]
            rintro e w8 ⟨m8, s8, n8, R8, rfl, hO8, hL8, hm8, hv8, hn8, hk8⟩
            obtain ⟨hmf, hv8n⟩ := pos_of (z := XR - y * lo) hL8 hm8 hv8 hrb.out.1
            clear hv8 hm8
            subst hmf
            obtain ⟨ra8, rc8, rfl, _⟩ := own_form hO8
            have hfl := zfield false ra8 n8 rc8 w8
            have hk58 := (hk6.trans hk7).trans hk8
            have hob8 : o0 < w7.heap.size := Nat.lt_of_lt_of_le hQ5.lt (hk6.trans hk7).size
            have hfin : Hid (DivIn l (t + 1) y D (fun j => if j = c then lo else Q j) (valZ R8 n8)) := by
              have hst := hDI.out.step (lo := lo) hlt (by have := HCC.out; omega) ⟨lo0, hlo1⟩ (r' := valZ R8 n8) (by rw [hv8n]; exact hrb.out) (by
                have h1 := HXDD.out
                have h2 := HXRR.out
                rw [hv8n, h1, Int.mul_comm lo y]
                omega)
              rw [show l - 1 - t = c by have := HCC.out; omega] at hst
              exact hst
            have hec : (c : Int) - 1 = (l : Int) - 1 - ((t + 1 : Nat) : Int) := by have := HCC.out; omega
            have HEC := Lib.hid hec
            have hrel9 : Hid (RestAt2 o0 w8 (.slice ra8 n8 rc8) n8 R8) := ⟨_, hob8, hO8, hL8, hn8⟩
            clear hO8 hL8 hv8n hec hDI
            go_wp2_with fail
            go_roundg (l - (t + 1))
            case measure => omega
            case rel => exact ⟨t + 1, n8, R8, fun j => if j = c then lo else Q j, by omega, rfl, by rw [← HEC.out], hK5.trans hk58, hk58.row hZ5, hk58.row hY5, hk58.row hR05, hk58.row hR15, hk58.row hQ5, hrel9.out, hfin.out⟩
    · obtain rfl : t = l := by omega
      have ec : (t : Int) - 1 - (t : Int) = -1 := by omega
      rw [ec]
      have hfin := hDI.out.val
      rw [hiV_all, hiV_all, HVX.out] at hfin
      have hrr2 := hDI.out.rest
      have huq := (Int.ediv_emod_unique (a := x) (b := y) (q := valZ Q t) (r := valZ R n) hy0).2 ⟨by rw [Int.add_comm, Int.mul_comm y]; exact hfin, hrr2.1, hrr2.2⟩
      have hqv := valZ_bd (show DigZ Q t from hDI.out.dig)
      have hqx : valZ Q t ≤ x := by
        have : valZ Q t * 1 ≤ valZ Q t * y := Int.mul_le_mul_of_nonneg_left (by omega) hqv.1
        omega
      have HE1 := Lib.hid huq.1
      have HE2 := Lib.hid huq.2
      have hSO : SlAt wr (.slice (some ⟨o0, 0, none⟩) t t) t Q := ⟨_, t, rfl, Nat.le_refl _, (fun h => by cases h), (by unfold maxLen; omega), CellsAt.of_row hQr⟩
      have HSO := Lib.hid hSO
      have HQB : Hid (valZ Q t < bigN) := by show _ < _; have := HXB.out; omega
      have HRB : Hid (valZ R n < bigN) := by show _ < _; have := HBY2.out; omega
      have HQD := Lib.hid (show DigZ Q t from hDI.out.dig)
      have hRS : Hid (SlAt wr (.slice ra0 n rcap) n R) := SlAt.of_own hRO
      have HRD := Lib.hid hRL.1
      obtain ⟨zz0, zz1, _, _⟩ := bx_cells hZ
      clear ec hfin hrr2 huq hqv hqx hSO hDI hRO hRL hrg hQr
      go_wp2_with fail
      refine (lean_any _ false _ t Q HSO.out HQD.out (by omega) HQB.out).mono ?_
      rintro e w5 ⟨v5, rfl, hz5, hk5⟩
      obtain ⟨m5, a5, l5, c5, rfl⟩ := hz5.shape
      have HZ5 := Lib.hid hz5
      clear hz5 zz0 zz1
      go_wp2_with fail
      refine (lean_any _ false _ n R (hRS.out.kept hk5) HRD.out (by omega) HRB.out).mono ?_
      rintro e w6 ⟨v6, rfl, hz6, hk6⟩
      obtain ⟨m6, a6, l6, c6, rfl⟩ := hz6.shape
      have HZ6 := Lib.hid hz6
      have hkk := hk5.trans hk6
      have hk9 : Kept w6 ((w6.alloc (.cells #[.bool m5, .slice a5 l5 c5] 37)).alloc (.cells #[.bool m6, .slice a6 l6 c6] 37)) := ((Kept.refl w6).alloc _).alloc _
      have hk99 := hkk.trans hk9
      have hZ9 := hk99.row hZ
      have hR09 := hk99.row hR0
      have hR19 := hk99.row hR1
      have hKF := hK.trans hk99
      have HZ59 := Lib.hid ((HZ5.out.kept hk6).kept hk9)
      have HZ69 := Lib.hid (hz6.kept hk9)
      obtain ⟨y0, y1, _, _⟩ := bx_cells hZ9
      obtain ⟨p0, p1, p2, p3⟩ := bx_cells hR09
      obtain ⟨q0, q1, q2, q3⟩ := bx_cells hR19
      have HR09 := Lib.hid hR09
      have HR0lt : Hid (r0 < w6.heap.size) := (hkk.row hR0).lt
      have HR1lt : Hid (r1 < w6.heap.size) := (hkk.row hR1).lt
      have HR19 := Lib.hid hR19
      clear hz6 HZ6 HZ5 hkk hZ hR0 hR1 hK hY hR09 hR19 hZ9
      go_wp2_with fail
      have hT5 := Kept.row ((Kept.refl _).alloc (.cells #[.bool m6, .slice a6 l6 c6] 37)) (box_row w6 (.bool m5) (.slice a5 l5 c5) 37 w6.heap.size rfl)
      have hT6 := box_row (w6.alloc (.cells #[.bool m5, .slice a5 l5 c5] 37)) (.bool m6) (.slice a6 l6 c6) 37 (w6.heap.size + 1) (by simp)
      have hl0 : r0 < w6.heap.size := by rcases Nat.lt_or_ge r0 w6.heap.size with h | h; exact h; exact absurd (HR0lt.out) (by omega)
      have hl1 : r1 < w6.heap.size := by rcases Nat.lt_or_ge r1 w6.heap.size with h | h; exact h; exact absurd (HR1lt.out) (by omega)
      generalize ((w6.alloc (.cells #[.bool m5, .slice a5 l5 c5] 37)).alloc (.cells #[.bool m6, .slice a6 l6 c6] 37)) = W9 at *
      obtain ⟨z6, HZZ6⟩ : ∃ z, Hid (z = w6.heap.size + 1) := ⟨_, rfl⟩
      obtain ⟨z5, HZZ5⟩ : ∃ z, Hid (z = w6.heap.size) := ⟨_, rfl⟩
      rw [← HZZ6.out] at hT6 ⊢
      rw [← HZZ5.out] at hT5 ⊢
      have n1 : r0 ≠ z5 := by rw [HZZ5.out]; omega
      have n2 : r0 ≠ z6 := by rw [HZZ6.out]; omega
      have n3 : r1 ≠ z5 := by rw [HZZ5.out]; omega
      have n4 : r1 ≠ z6 := by rw [HZZ6.out]; omega
      obtain ⟨b0', b1', _, _⟩ := bx_cells hT5
      obtain ⟨b2', b3', _, _⟩ := bx_cells hT6
      clear hT5 hT6 hl0 hl1 hk9 hk99
      go_region
      have hX1 : KeptX (fun k => k = r0) W9 ((W9.setCell ⟨r0, 0, none⟩ (.bool m5)).setCell ⟨r0, 1, none⟩ (.slice a5 l5 c5)) := ((KeptX.refl (fun k => k = r0) W9).setIn 0 _).setIn 1 _
      have hX2 : KeptX (fun k => k = r1) ((W9.setCell ⟨r0, 0, none⟩ (.bool m5)).setCell ⟨r0, 1, none⟩ (.slice a5 l5 c5)) ((((W9.setCell ⟨r0, 0, none⟩ (.bool m5)).setCell ⟨r0, 1, none⟩ (.slice a5 l5 c5)).setCell ⟨r1, 0, none⟩ (.bool m6)).setCell ⟨r1, 1, none⟩ (.slice a6 l6 c6)) := ((KeptX.refl (fun k => k = r1) ((W9.setCell ⟨r0, 0, none⟩ (.bool m5)).setCell ⟨r0, 1, none⟩ (.slice a5 l5 c5))).setIn 0 _).setIn 1 _
      have hr1 := (HR19.out.setOther (a := ⟨r0, 0, none⟩) (Ne.symm hrr) (.bool m5)).setOther (a := ⟨r0, 1, none⟩) (Ne.symm hrr) (.slice a5 l5 c5)
      have hA := bx_set1 (bx_set0 HR09.out (.bool m5)) (.slice a5 l5 c5)
      have hA2 := (hA.setOther (a := ⟨r1, 0, none⟩) hrr (.bool m6)).setOther (a := ⟨r1, 1, none⟩) hrr (.slice a6 l6 c6)
      have hB2 := bx_set1 (bx_set0 hr1 (.bool m6)) (.slice a6 l6 c6)
      have hdr : Kept ((((W9.setCell ⟨r0, 0, none⟩ (.bool m5)).setCell ⟨r0, 1, none⟩ (.slice a5 l5 c5)).setCell ⟨r1, 0, none⟩ (.bool m6)).setCell ⟨r1, 1, none⟩ (.slice a6 l6 c6)) ((((W9.setCell ⟨r0, 0, none⟩ (.bool m5)).setCell ⟨r0, 1, none⟩ (.slice a5 l5 c5)).setCell ⟨r1, 0, none⟩ (.bool m6)).setCell ⟨r1, 1, none⟩ (.slice a6 l6 c6)).drew := (Kept.refl _).drew
      have hq1 := Lib.hid (((HZ59.out.keptBox hX1 HR09.out).keptBox hX2 hr1).kept hdr)
      have hq2 := Lib.hid (((HZ69.out.keptBox hX1 HR09.out).keptBox hX2 hr1).kept hdr)
      have hKFF : Kept w ((((W9.setCell ⟨r0, 0, none⟩ (.bool m5)).setCell ⟨r0, 1, none⟩ (.slice a5 l5 c5)).setCell ⟨r1, 0, none⟩ (.bool m6)).setCell ⟨r1, 1, none⟩ (.slice a6 l6 c6)).drew := ((((hKF.setCell hrw _).setCell hrw _).setCell hrw1 _).setCell hrw1 _).drew
      obtain ⟨g0, g1, _, _⟩ := bx_cells (hdr.row hA2)
      obtain ⟨g2, g3, _, _⟩ := bx_cells (hdr.row hB2)
      clear hX1 hX2 hr1 hA hA2 hB2 hdr
      generalize ((((W9.setCell ⟨r0, 0, none⟩ (.bool m5)).setCell ⟨r0, 1, none⟩ (.slice a5 l5 c5)).setCell ⟨r1, 0, none⟩ (.bool m6)).setCell ⟨r1, 1, none⟩ (.slice a6 l6 c6)).drew = WF at *
      go_wp2_with fail
      exact bodyPost_ret (v := .tuple #[.agg #[.bool m5, .slice a5 l5 c5], .agg #[.bool m6, .slice a6 l6 c6]]) (by simp [results, Tryd.results49, go_sem, g0, g1, g2, g3]) rfl ⟨_, _, rfl, by rw [HE1.out]; exact hq1.out, by rw [HE2.out]; exact hq2.out, hKFF⟩
set_option maxRecDepth 100000 in
set_option maxHeartbeats 4000000 in
theorem Abs_any (w : World) (v : Value) (z y : Int) (hZ : ZAt w v z) (hy : y = (z.natAbs : Int)) :
    Calls Tryd.prog 47 #[v] w (ZPost w y) := by
  obtain ⟨m, sv, l, D, rfl, hS, hL, hm, hv, hl⟩ := hZ
  have HS := Lib.hid hS
  have HL := Lib.hid hL
  obtain ⟨a, cap, rfl, _⟩ := hS
  have hb := valZ_bd hL.1
  have hz : Hid (∀ w', Kept w w' → ZAt w' (.agg #[.bool false, .slice a l cap]) y) := fun w' k => ⟨false, _, l, D, rfl, HS.out.kept k, HL.out, (fun h => by cases h), by rw [hy, hv]; cases m <;> simp [sgnZ] <;> omega, hl⟩
  clear hL hy hv hb
  go_enter Tryd.func47, Tryd.ntmps47
  go_wp2_with fail
  exact bodyPost_ret (v := .agg #[.bool false, .slice a l cap]) (by simp [results, Tryd.results47, go_sem]) rfl ⟨_, rfl, hz.out _ (((Kept.refl w).alloc _).alloc _), ((Kept.refl w).alloc _).alloc _⟩
end Go.Proofs.YthigeafojekclaaDoor.Num
