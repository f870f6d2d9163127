/-
  The law FootAround: its walk.
-/
import Derived.Test.YtfmcjbddbomohabGd
import Derived.Test.YtfmcjbddbomohabRo
import Derived.Test.YtfmcjbddbomohabLv
namespace Go.Proofs.Ytfmcjbddbomohab
open Go.RowKit Go.Deep

theorem Turned_good (w : World) (m n : Nat) (a1 a2 : Option Addr) (cap1 cap2 : Nat) (X Y U V : Nat → Int) (h : Two w m n (.slice a1 m cap1) (.slice a2 n cap2) X Y U V) (hcap : n ≤ cap2) :
    Calls Try.prog 12 #[.slice a1 m cap1, .slice a2 n cap2] w fun e w' => e = .returned (.tuple #[.int .i64 (tnd m X Y n U V n).1, .int .i64 (tnd m X Y n U V n).2, .int .i64 0]) ∧ Kept w w' := by
  refine (Turned_any w m n a1 a2 cap1 cap2 X Y U V h.a h.b hcap (by have := h.m2; omega) (by have := h.n2; omega)).mono ?_
  rintro e w' ⟨hk, hr, _⟩
  exact ⟨hr (by rw [code2_good h.i1 h.i2 h.m1 h.n1 h.m2 h.n2]; rfl), hk⟩
set_option maxRecDepth 100000 in
set_option maxHeartbeats 4000000 in
theorem around_any (w : World) (xa ya : Option Addr) (q qcap r rcap : Nat) (X Y U V : Nat → Int) (kk : Nat) (hx : Int8sAt w (.slice xa q qcap) q X Y) (hX : small X) (hY : small Y) (hq : q ≤ maxLen) (hy : Int8sAt w (.slice ya r rcap) r U V) (hU : small U) (hV : small V) (hr : r ≤ maxLen) (hkk : kk < 256) :
    Calls Try.prog 5 #[.slice xa q qcap, .slice ya r rcap, .int .u8 kk] w (LivesPost w) := by
  go_enter Try.func5, Try.ntmps5
  go_wp2_with fail
  refine (made_any _ xa q qcap 15 X Y hx hX hY hq (by omega) (by omega)).mono ?_
  rintro e w1 ⟨g1, c1, rfl, hc1, hP1, hk1, _⟩
  have hy1 := hy.kept hk1
  go_wp2_with fail
  refine (made_any _ ya r rcap 15 U V hy1 hU hV hr (by omega) (by omega)).mono ?_
  rintro e w2 ⟨g2, c2, rfl, hc2, hQ2, hk2, _⟩
  have hm := madeN_bd (q := q) (most := 15) (by omega)
  have hn := madeN_bd (q := r) (most := 15) (by omega)
  have hT2 : Two w2 (madeN q 15) (madeN r 15) _ _ _ _ _ _ := ⟨hP1.kept hk2, hQ2, made_in, made_in, hm.1, hn.1, by omega, by omega⟩
  have hK2 := hk1.trans hk2
  generalize madeN q 15 = m at *
  generalize madeN r 15 = n at *
  generalize madeF q 1 X = A at *
  generalize madeF q 2 Y = B at *
  generalize madeF r 1 U = C at *
  generalize madeF r 2 V = D at *
  clear hx hX hY hq hy hU hV hr hP1 hQ2 hk1 hk2 hy1
  have hm1 : 1 ≤ m := hm.1
  have hn1 : 1 ≤ n := hn.1
  obtain ⟨d, HD⟩ : ∃ d, Hid (d = (tnd m A B n C D n).1) := ⟨_, rfl⟩
  obtain ⟨at', HAT⟩ : ∃ at', Hid (at' = (tnd m A B n C D n).2) := ⟨_, rfl⟩
  obtain ⟨f, HF⟩ : ∃ f, Hid (f = fre m A B n C D) := ⟨_, rfl⟩
  have hdf : d ≤ f := by rw [HD.out, HF.out]; exact (tnd_min n).1
  have hhit := tnd_hit (m := m) (n := n) (X := A) (Y := B) (U := C) (V := D) hm1 hn1 n (Nat.le_refl _)
  rw [← HD.out, ← HAT.out] at hhit
  have hatn : at' < n := hhit.1
  have HJ := Lib.hid hhit.2
  clear hhit
  go_wp2_with fail
  refine (Turned_good _ m n _ _ c1 c2 A B C D hT2 hc2).mono ?_
  rw [← HD.out, ← HAT.out]
  rintro e w3 ⟨rfl, hk3⟩
  have hT3 := hT2.kept hk3
  have hK3 := hK2.trans hk3
  clear hT2 hk3 hK2
  go_wp2_with fail
  refine (Frechet_good _ m n _ _ A B C D hT3).mono ?_
  rw [← HF.out]
  rintro e w4 ⟨rfl, hk4⟩
  have hT4 := hT3.kept hk4
  have hK4 := hK3.trans hk4
  clear hT3 hk4 hK3
  obtain ⟨k1, hk1⟩ : ∃ k1, k1 = kk % n := ⟨_, rfl⟩
  have hk1n : k1 < n := by rw [hk1]; exact Nat.mod_lt _ (by omega)
  have ek1 : (kk : Int) % (n : Int) = (k1 : Int) := by rw [hk1, Int.natCast_emod]
  obtain ⟨k2, hk2⟩ : ∃ k2, k2 = kk % m := ⟨_, rfl⟩
  have hk2m : k2 < m := by rw [hk2]; exact Nat.mod_lt _ (by omega)
  have ek2 : (kk : Int) % (m : Int) = (k2 : Int) := by rw [hk2, Int.natCast_emod]
  have np : (0 : Int) < n := by omega
  have mp : (0 : Int) < m := by omega
  clear hk1 hk2
  go_wp2_with fail
  refine (begun_any _ _ n c2 k1 C D hT4.b hc2 hk1n (by have := hT4.n2; omega)).mono ?_
  rintro e w5 ⟨v5, rfl, hO5, hk5⟩
  obtain ⟨g5, c5, rfl, _⟩ := hO5.form (by omega)
  have hB5 := own_pairs hO5
  have hc5 : n ≤ c5 := by obtain ⟨_, _, e, h1, _⟩ := own_form hO5; cases e; exact h1
  have hT5 := hT4.kept hk5
  have hK5 := hK4.trans hk5
  have hTR : Two w5 m n _ _ A B (rotF n k1 C) (rotF n k1 D) := ⟨hT5.a, hB5, hT5.i1, rot_in (by omega) hT5.i2, hT5.m1, hT5.n1, hT5.m2, hT5.n2⟩
  clear hT4 hK4 hO5 hB5 hk5
  go_wp2_with fail
  refine (Turned_good _ m n _ _ c1 c5 A B _ _ hTR hc5).mono ?_
  rw [tnd_rot hm1 hk1n, ← HD.out]
  obtain ⟨at2, HA2⟩ : ∃ at2, Hid (at2 = (tnd m A B n (rotF n k1 C) (rotF n k1 D) n).2) := ⟨_, rfl⟩
  rw [← HA2.out]
  rintro e w6 ⟨rfl, hk6⟩
  have hT6 := hT5.kept hk6
  have hK6 := hK5.trans hk6
  clear hT5 hK5 hTR hk6
  go_wp2_with fail
  refine (begun_any _ _ m c1 k2 A B hT6.a hc1 hk2m (by have := hT6.m2; omega)).mono ?_
  rintro e w7 ⟨v7, rfl, hO7, hk7⟩
  obtain ⟨g7, c7, rfl, _⟩ := hO7.form (by omega)
  have hB7 := own_pairs hO7
  have hc7 : m ≤ c7 := by obtain ⟨_, _, e, h1, _⟩ := own_form hO7; cases e; exact h1
  have hT7 := hT6.kept hk7
  have hK7 := hK6.trans hk7
  have hTS : Two w7 m m _ _ A B (rotF m k2 A) (rotF m k2 B) := ⟨hT7.a, hB7, hT7.i1, rot_in (by omega) hT7.i1, hT7.m1, hT7.m1, hT7.m2, hT7.m2⟩
  clear hT6 hK6 hO7 hB7 hk7
  go_wp2_with fail
  refine (Turned_good _ m m _ _ c1 c7 A B _ _ hTS hc7).mono ?_
  rw [tnd_self hT7.i1 hk2m]
  obtain ⟨at3, HA3⟩ : ∃ at3, Hid (at3 = (tnd m A B m (rotF m k2 A) (rotF m k2 B) m).2) := ⟨_, rfl⟩
  rw [← HA3.out]
  rintro e w8 ⟨rfl, hk8⟩
  have hT8 := hT7.kept hk8
  have hK8 := hK7.trans hk8
  clear hT7 hK7 hTS hk8
  have z1 : ¬ f < d := by omega
  have z2 : (d != d) = false := by simp
  have z3 : ¬ ((at' : Int) < 0) := by omega
  have z4 : ¬ ((n : Int) ≤ (at' : Int)) := by omega
  go_wp2_with fail
  refine (lives_any _).mono ?_
  rintro e w9 ⟨rfl, hk9⟩
  have hT9 := hT8.kept hk9
  have hK9 := hK8.trans hk9
  clear hT8 hK8 hk9
  go_wp2_with fail
  refine (begun_any _ _ n c2 at' C D hT9.b hc2 hatn (by have := hT9.n2; omega)).mono ?_
  rintro e w10 ⟨v10, rfl, hO10, hk10⟩
  have hB10 := own_pairs hO10
  have hT10 := hT9.kept hk10
  have hK10 := hK9.trans hk10
  have hTU : Two w10 m n _ _ A B (rotF n at' C) (rotF n at' D) := ⟨hT10.a, hB10, hT10.i1, rot_in (by omega) hT10.i2, hT10.m1, hT10.n1, hT10.m2, hT10.n2⟩
  have hj : fre m A B n (rotF n at' C) (rotF n at' D) = d := HJ.out.symm
  clear hT9 hK9 hO10 hB10 hk10
  go_wp2_with fail
  refine (Frechet_good _ m n _ _ A B _ _ hTU).mono ?_
  rw [hj]
  rintro e w11 ⟨rfl, hk11⟩
  go_wp2_with fail
  go_ret
  exact ⟨rfl, hK10.trans hk11⟩
end Go.Proofs.Ytfmcjbddbomohab
