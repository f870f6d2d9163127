/-
  The reference's numbers of any size: times; what a long division does. 
-/
import Derived.Test.YtomnjcjipdnnfaaNr
namespace Go.Proofs.Ytomnjcjipdnnfaa
open Go.RowKit Go.Deep

/-- the value of the top t of l digits -/
def hiV (D : Nat → Int) (l : Nat) : Nat → Int
  | 0 => 0
  | t + 1 => hiV D l t * 10000 + D (l - 1 - t)
theorem hiV_split {D : Nat → Int} {l : Nat} (t : Nat) (ht : t ≤ l) : valZ D l = hiV D l t * 10000 ^ (l - t) + valZ D (l - t) := by
  induction t with
  | zero => simp [hiV]
  | succ t ih =>
    have h1 := ih (by omega)
    obtain ⟨k, hk⟩ : ∃ k, l - t = k + 1 := ⟨l - t - 1, by omega⟩
    rw [hk] at h1
    have e1 : l - (t + 1) = k := by omega
    have e2 : l - 1 - t = k := by omega
    rw [e1]
    simp only [hiV, valZ, e2, pw_succ] at h1 ⊢
    rw [h1]
    grind
theorem hiV_all {D : Nat → Int} {l : Nat} : hiV D l l = valZ D l := by
  have := hiV_split (D := D) (l := l) l (Nat.le_refl _)
  rw [Nat.sub_self] at this
  simp [valZ] at this
  exact this.symm
theorem hiV_congr {D E : Nat → Int} {l : Nat} (t : Nat) (ht : t ≤ l) (h : ∀ i, l - t ≤ i → i < l → D i = E i) : hiV D l t = hiV E l t := by
  induction t with
  | zero => rfl
  | succ t ih =>
    simp only [hiV]
    rw [ih (by omega) (fun i a b => h i (by omega) b), h (l - 1 - t) (by omega) (by omega)]
/-- a digit in front -/
def consZ (x : Int) (R : Nat → Int) : Nat → Int := fun j => if j = 0 then x else R (j - 1)
theorem valZ_cons (x : Int) (R : Nat → Int) (n : Nat) : valZ (consZ x R) (n + 1) = x + 10000 * valZ R n := by
  induction n with
  | zero => simp [valZ, consZ]
  | succ n ih =>
    have e : valZ (consZ x R) (n + 1 + 1) = valZ (consZ x R) (n + 1) + consZ x R (n + 1) * 10000 ^ (n + 1) := rfl
    have e2 : consZ x R (n + 1) = R n := by simp [consZ]
    have e3 : valZ R (n + 1) = valZ R n + R n * 10000 ^ n := rfl
    rw [e, ih, e2, e3, pw_succ]
    grind
theorem dig_cons {x : Int} {R : Nat → Int} {n : Nat} (hx : 0 ≤ x ∧ x < 10000) (hR : DigZ R n) : DigZ (consZ x R) (n + 1) := fun i hi => by
  unfold consZ
  by_cases e : i = 0
  · rw [if_pos e]; exact hx
  · rw [if_neg e]; exact hR (i - 1) (by omega)
/-- a digit more of the quotient -/
theorem div_step {A Qh y r x q r' : Int} (h : Qh * y + r = A) (hr : q * y + r' = x + 10000 * r) : (Qh * 10000 + q) * y + r' = A * 10000 + x := by
  grind
theorem zfield (m : Bool) (a : Option Addr) (l c : Nat) (w : World) : (Instr.field 60 (.agg #[.bool m, .slice a l c]) 1).run Try.prog w = .ok (.slice a l c) w := by
  first | kernel_rfl | rfl | (go_simp; done)
def SlPost (w : World) (x : Int) (e : Ending) (w' : World) : Prop := ∃ v n O, e = .returned v ∧ SlAt w' v n O ∧ LeanZ O n ∧ valZ O n = x ∧ n ≤ 1000 ∧ Kept w w'
theorem ZAt.of_sl {w : World} {s : Value} {n : Nat} {D : Nat → Int} (h : SlAt w s n D) (hL : LeanZ D n) (hn : n ≤ 1000) : ZAt w (.agg #[.bool false, s]) (valZ D n) :=
  ⟨false, s, n, D, rfl, h, hL, (fun h => by cases h), rfl, hn⟩
theorem ZAt.pos {w : World} {m : Bool} {s : Value} {z : Int} (h : ZAt w (.agg #[.bool m, s]) z) (hz : 0 ≤ z) : m = false ∧ ∃ n O, SlAt w s n O ∧ LeanZ O n ∧ valZ O n = z ∧ n ≤ 1000 := by
  obtain ⟨m', s', n, D, e, hS, hL, hm, hv, hn⟩ := h
  injection e with e
  injection e with e
  injection e with e1 e2
  injection e1 with e1
  injection e2 with e2 _
  subst e1
  subst e2
  have hb := valZ_bd hL.1
  cases m
  · exact ⟨rfl, n, D, hS, hL, hv.symm, hn⟩
  · exfalso
    have h1 := hm rfl
    have h2 := lean_zero hL
    have h3 : valZ D n ≠ 0 := fun h => by have := h2.1 h; omega
    have h4 : z = - valZ D n := hv
    omega
theorem sl_pad {w : World} {s : Value} {n : Nat} {D : Nat → Int} (h : SlAt w s n D) : ∃ a c, s = .slice a n c := by
  obtain ⟨a, c, e, _⟩ := h
  exact ⟨a, c, e⟩
set_option maxRecDepth 100000 in
set_option maxHeartbeats 4000000 in
theorem times_any (w : World) (s : Value) (n : Nat) (D : Nat → Int) (d : Int) (hS : SlAt w s n D) (hL : LeanZ D n) (hn : n ≤ 1000) (hd : 0 ≤ d ∧ d ≤ 10000) (hB : valZ D n * 10000 < bigN) :
    Calls Try.prog 95 #[s, .int .i64 d] w (SlPost w (valZ D n * d)) := by
  have hb := valZ_bd hL.1
  have hp : 0 ≤ valZ D n * d := Int.mul_nonneg hb.1 hd.1
  have hq : valZ D n * d ≤ valZ D n * 10000 := Int.mul_le_mul_of_nonneg_left hd.2 hb.1
  have hbig : Big (valZ D n * d) := ⟨by omega, by omega⟩
  have HZ := Lib.hid (ZAt.of_sl hS hL hn)
  obtain ⟨a, c, rfl⟩ := sl_pad hS
  obtain ⟨P, HP⟩ : ∃ P, Hid (P = valZ D n * d) := ⟨_, rfl⟩
  have HB := Lib.hid hbig
  have HPP : Hid (0 ≤ P ∧ P < bigN) := by show _ ∧ _; rw [HP.out]; exact ⟨hp, by omega⟩
  rw [← HP.out]
  obtain ⟨d0, d1⟩ := hd
  clear hS hL hb hp hq hbig hB
  go_enter Try.func95, Try.ntmps95
  go_wp2_with fail
  refine (Int_any _ d (by omega) (by omega)).mono ?_
  rintro e w1 ⟨v1, rfl, hz1, hk1⟩
  obtain ⟨m1, a1, l1, c1, rfl⟩ := hz1.shape
  have HZ1 := Lib.hid hz1
  clear hz1
  go_wp2_with fail
  refine (Mul_any _ _ _ (valZ D n) d (HZ.out.kept hk1) HZ1.out HB.out).mono ?_
  rw [← HP.out]
  rintro e w2 ⟨v2, rfl, hz2, hk2⟩
  obtain ⟨m2, a2, l2, c2, rfl⟩ := hz2.shape
  obtain ⟨rfl, n2, O2, hS2, hL2, hv2, hn2⟩ := hz2.pos HPP.out.1
  obtain ⟨a2', c2', e2⟩ := sl_pad hS2
  injection e2 with e3 e4 e5
  subst e4
  have HS2 := Lib.hid hS2
  have HL2 := Lib.hid hL2
  have HV2 := Lib.hid hv2
  clear hS2 hL2 hv2 hz2 e3 e5
  go_wp2_with fail
  refine (lean_any _ false _ l2 O2 HS2.out HL2.out.1 (by omega) (by rw [HV2.out]; exact HPP.out.2)).mono ?_
  rw [HV2.out]
  rintro e w3 ⟨v3, rfl, hz3, hk3⟩
  obtain ⟨m3, a3, l3, c3, rfl⟩ := hz3.shape
  obtain ⟨rfl, n3, O3, hS3, hL3, hv3, hn3⟩ := hz3.pos HPP.out.1
  obtain ⟨a3', c3', e6⟩ := sl_pad hS3
  injection e6 with e7 e8 e9
  subst e8
  have hK := (hk1.trans hk2).trans hk3
  have HF := Lib.hid (And.intro hS3 (And.intro hL3 (And.intro hv3 hn3)))
  have hfl := zfield false a3 l3 c3 w3
  clear hS3 hL3 hv3 hz3 e7 e9 hn3
  go_wp2_with fail
  go_ret
  exact ⟨_, _, O3, rfl, HF.out.1, HF.out.2.1, HF.out.2.2.1, HF.out.2.2.2, hK⟩
end Go.Proofs.Ytomnjcjipdnnfaa
