/-
  Package gait: how many bits two numbers have in common; isOdd.
-/
import Derived.Test.YtofgadehblpoiaaDoorMg
import Derived.Test.YtofgadehblpoiaaDoorGl
namespace Go.Proofs.YtofgadehblpoiaaDoor
open Go.RowKit Go.Deep Go.Shelf

/-- how many of the lowest bits are set -/
def popF : Nat → Nat → Nat
  | 0, _ => 0
  | f + 1, v => v % 2 + popF f (v / 2)
def pop (v : Nat) : Nat := popF 7 v
theorem popF_le (f v : Nat) : popF f v ≤ f := by
  induction f generalizing v with
  | zero => exact Nat.le_refl _
  | succ f ih => simp only [popF]; have := ih (v / 2); omega
theorem popF_zero (f : Nat) : popF f 0 = 0 := by
  induction f with
  | zero => rfl
  | succ f ih =>
    show 0 % 2 + popF f (0 / 2) = 0
    rw [show 0 / 2 = 0 from rfl, ih]
/-- two numbers have an odd number of bits in common -/
def par (i j : Nat) : Bool := pop (i &&& j) % 2 == 1
def bX (v : Nat) : Bool := xorB (fun b => v.testBit b) 7
theorem par_tab : ∀ v : Fin 128, (pop v.val % 2 == 1) = bX v.val := by decide +kernel
theorem and_lt {i j : Nat} (hi : i < 128) : i &&& j < 128 := Nat.lt_of_le_of_lt Nat.and_le_left hi
theorem par_bits {i : Nat} (j : Nat) (hi : i < 128) : par i j = xorB (fun b => i.testBit b && j.testBit b) 7 := by
  unfold par
  have h := par_tab ⟨i &&& j, and_lt hi⟩
  simp only at h
  rw [h]
  unfold bX
  exact xor_congr (fun b => by rw [Nat.testBit_and]) 7
theorem par_comm (i j : Nat) : par i j = par j i := by unfold par; rw [Nat.and_comm]
/-- the steps of the library's count -/
def oB (x : Nat) : Nat := x / 2 &&& 6148914691236517205
def oC (x : Nat) : Nat := x &&& 6148914691236517205
def oD (x : Nat) : Nat := oB x + oC x
def oE (x : Nat) : Nat := oD x / 4 &&& 3689348814741910323
def oF (x : Nat) : Nat := oD x &&& 3689348814741910323
def oG (x : Nat) : Nat := oE x + oF x
def oH (x : Nat) : Nat := (oG x / 16 + oG x) &&& 1085102592571150095
theorem ones_tab : ∀ x : Fin 128, oB x.val < 256 ∧ oC x.val < 256 ∧ oE x.val < 256 ∧ oF x.val < 256 ∧ oH x.val = pop x.val := by decide +kernel
theorem ofU (a : Nat) (h : a < 18446744073709551616) : (BitVec.ofInt 64 (a : Int)).toNat = a := by
  rw [BitVec.ofInt_natCast, BitVec.toNat_ofNat, Nat.mod_eq_of_lt (by omega)]
theorem wrapU (a : Nat) (h : a < 18446744073709551616) : IntKind.u64.wrap (a : Int) = (a : Int) := by rw [IntKind.wrap_u64]; omega
theorem andU (a b : Nat) (ha : a < 18446744073709551616) (hb : b < 18446744073709551616) : bits .and .u64 (a : Int) (b : Int) = ((a &&& b : Nat) : Int) := by
  show IntKind.u64.wrap ((BitVec.ofInt 64 (a : Int) &&& BitVec.ofInt 64 (b : Int)).toNat : Int) = _
  rw [BitVec.toNat_and, ofU a ha, ofU b hb]
  have : a &&& b ≤ a := Nat.and_le_left
  exact wrapU _ (by omega)
set_option maxRecDepth 100000 in
set_option maxHeartbeats 4000000 in
theorem ones64_any (w : World) (x : Nat) (hx : x < 128) : Calls Tryd.prog 122 #[.int .u64 x] w fun e w' => e = .returned (.int .i64 ((pop x : Nat) : Int)) ∧ Quiet w w' := by
  have h := ones_tab ⟨x, hx⟩
  simp only at h
  obtain ⟨h1, h2, h3, h4, h5⟩ := h
  have hp := popF_le 7 x
  rw [show popF 7 x = pop x from rfl] at hp
  obtain ⟨b, HB⟩ : ∃ b, Hid (b = oB x) := ⟨_, rfl⟩
  obtain ⟨c, HC⟩ : ∃ c, Hid (c = oC x) := ⟨_, rfl⟩
  obtain ⟨e, HE⟩ : ∃ e, Hid (e = oE x) := ⟨_, rfl⟩
  obtain ⟨f, HF⟩ : ∃ f, Hid (f = oF x) := ⟨_, rfl⟩
  obtain ⟨p, HP⟩ : ∃ p, Hid (p = pop x) := ⟨_, rfl⟩
  obtain ⟨d, HD⟩ : ∃ d, Hid (d = b + c) := ⟨_, rfl⟩
  obtain ⟨g, HG⟩ : ∃ g, Hid (g = e + f) := ⟨_, rfl⟩
  obtain ⟨m, HM⟩ : ∃ m, Hid (m = g / 16 + g) := ⟨_, rfl⟩
  have hD : oD x = d := by rw [HD.out, HB.out, HC.out]; rfl
  have hG : oG x = g := by rw [HG.out, HE.out, HF.out]; rfl
  have k1 : bits .and .u64 ((x : Int) / 2) 6148914691236517205 = (b : Int) := by
    rw [show ((x : Int) / 2) = ((x / 2 : Nat) : Int) by omega, show (6148914691236517205 : Int) = ((6148914691236517205 : Nat) : Int) from rfl, andU _ _ (by omega) (by omega), HB.out]; rfl
  have k2 : bits .and .u64 (x : Int) 6148914691236517205 = (c : Int) := by
    rw [show (6148914691236517205 : Int) = ((6148914691236517205 : Nat) : Int) from rfl, andU _ _ (by omega) (by omega), HC.out]; rfl
  rw [← HB.out] at h1
  rw [← HC.out] at h2
  rw [← HE.out] at h3
  rw [← HF.out] at h4
  rw [← HP.out] at hp h5 ⊢
  have hd := HD.out
  have hg := HG.out
  have hm := HM.out
  have k3 : IntKind.u64.wrap ((b : Int) + (c : Int)) = (d : Int) := by rw [show (b : Int) + (c : Int) = (d : Int) by omega]; exact wrapU _ (by omega)
  have k4 : bits .and .u64 ((d : Int) / 4) 3689348814741910323 = (e : Int) := by
    rw [show ((d : Int) / 4) = ((d / 4 : Nat) : Int) by omega, show (3689348814741910323 : Int) = ((3689348814741910323 : Nat) : Int) from rfl, andU _ _ (by omega) (by omega), HE.out, ← hD]; rfl
  have k5 : bits .and .u64 (d : Int) 3689348814741910323 = (f : Int) := by
    rw [show (3689348814741910323 : Int) = ((3689348814741910323 : Nat) : Int) from rfl, andU _ _ (by omega) (by omega), HF.out, ← hD]; rfl
  have k6 : IntKind.u64.wrap ((e : Int) + (f : Int)) = (g : Int) := by rw [show (e : Int) + (f : Int) = (g : Int) by omega]; exact wrapU _ (by omega)
  have k7 : IntKind.u64.wrap ((g : Int) / 16 + (g : Int)) = (m : Int) := by rw [show (g : Int) / 16 + (g : Int) = (m : Int) by omega]; exact wrapU _ (by omega)
  have k8 : bits .and .u64 (m : Int) 1085102592571150095 = (p : Int) := by
    rw [show (1085102592571150095 : Int) = ((1085102592571150095 : Nat) : Int) from rfl, andU _ _ (by omega) (by omega), ← h5, HM.out, ← hG]; rfl
  have k9 : IntKind.u64.wrap ((p : Int) + (p : Int) / 256) = (p : Int) := by rw [show (p : Int) + (p : Int) / 256 = (p : Int) by omega]; exact wrapU _ (by omega)
  have k10 : IntKind.u64.wrap ((p : Int) + (p : Int) / 65536) = (p : Int) := by rw [show (p : Int) + (p : Int) / 65536 = (p : Int) by omega]; exact wrapU _ (by omega)
  have k11 : IntKind.u64.wrap ((p : Int) + (p : Int) / 4294967296) = (p : Int) := by rw [show (p : Int) + (p : Int) / 4294967296 = (p : Int) by omega]; exact wrapU _ (by omega)
  have k12 : bits .and .i64 (p : Int) 127 = (p : Int) := by
    rw [show (127 : Int) = ((127 : Nat) : Int) from rfl, and64 _ _ (by omega) (by omega), show 127 = 2 ^ 7 - 1 from rfl, Nat.and_two_pow_sub_one_eq_mod, Nat.mod_eq_of_lt (by omega)]
  have k13 : IntKind.i64.wrap (p : Int) = (p : Int) := IntWalk.i64_in _ (by omega)
  clear hD hG HB HC HE HF h5 HD HG HM hd hg hm
  go_enter Tryd.func122, Tryd.ntmps122
  go_wp2_with fail
  go_ret
  exact ⟨rfl, Quiet.refl w⟩
set_option maxRecDepth 100000 in
theorem ones_any (w : World) (x : Nat) (hx : x < 128) : Calls Tryd.prog 95 #[.int .u64 x] w fun e w' => e = .returned (.int .i64 ((pop x : Nat) : Int)) ∧ Quiet w w' := by
  have P := Lib.hid (fun W => ones64_any W x hx)
  have hw := wrapU x (by omega)
  go_enter Tryd.func95, Tryd.ntmps95
  go_wp2_with (first | (go_at_call 122; refine (P.out _).mono ?_; rintro e w1 ⟨rfl, hq⟩))
  go_ret
  exact ⟨rfl, hq⟩
set_option maxRecDepth 100000 in
theorem isOdd_any (w : World) (i j : Nat) (hi : i < 128) (hj : j < 128) : Calls Tryd.prog 93 #[.int .i64 i, .int .i64 j] w fun e w' => e = .returned (.bool (par i j)) ∧ Quiet w w' := by
  have hv := and_lt (j := j) hi
  have P := Lib.hid (fun W => ones_any W (i &&& j) hv)
  have ea := and64 i j (by omega) (by omega)
  have hd : Hid (par i j = (pop (i &&& j) % 2 == 1)) := rfl
  have hp := popF_le 7 (i &&& j)
  rw [show popF 7 (i &&& j) = pop (i &&& j) from rfl] at hp
  generalize pop (i &&& j) = p at *
  generalize i &&& j = v at *
  have hw := wrapU v (by omega)
  obtain ⟨q, HQ⟩ : ∃ q : Nat, Hid (q = p % 2) := ⟨_, rfl⟩
  have et : Int.tmod (p : Int) 2 = (q : Int) := by rw [HQ.out]; exact (Int.ofNat_tmod p 2).symm
  rw [← HQ.out] at hd
  clear HQ
  go_enter Tryd.func93, Tryd.ntmps93
  go_wp2_with (first | (go_at_call 95; refine (P.out _).mono ?_; rintro e w1 ⟨rfl, hq⟩))
  go_ret
  exact ⟨ret_bool (by rw [hd.out]; exact nat_beq q 1), hq⟩
end Go.Proofs.YtofgadehblpoiaaDoor
