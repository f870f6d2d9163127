/-
  The law FootLimits: its walk.
-/
import Derived.Test.YtfmcjbddbomohabGd
import Derived.Test.YtfmcjbddbomohabLv
namespace Go.Proofs.Ytfmcjbddbomohab
open Go.RowKit Go.Deep

set_option maxRecDepth 100000 in
set_option maxHeartbeats 4000000 in
theorem limits_any (w : World) (xa ya : Option Addr) (q qcap r rcap : Nat) (X Y U V : Nat → Int) (more : Nat) (hx : Int8sAt w (.slice xa q qcap) q X Y) (hX : small X) (hY : small Y) (hq : q ≤ maxLen) (hy : Int8sAt w (.slice ya r rcap) r U V) (hU : small U) (hV : small V) (hr : r ≤ maxLen) (hmore : more < 256) :
    Calls Try.prog 3 #[.slice xa q qcap, .slice ya r rcap, .int .u8 more] w (LivesPost w) := by
  go_enter Try.func3, Try.ntmps3
  go_wp2_with fail
  refine (made_any _ xa q qcap 30 X Y hx hX hY hq (by omega) (by omega)).mono ?_
  rintro e w1 ⟨g1, c1, rfl, _, hP1, hk1, _⟩
  have hy1 := hy.kept hk1
  go_wp2_with fail
  refine (made_any _ ya r rcap 30 U V hy1 hU hV hr (by omega) (by omega)).mono ?_
  rintro e w2 ⟨g2, c2, rfl, _, hQ2, hk2, _⟩
  have hm := madeN_bd (q := q) (most := 30) (by omega)
  have hn := madeN_bd (q := r) (most := 30) (by omega)
  have hT2 : Two w2 (madeN q 30) (madeN r 30) _ _ _ _ _ _ := ⟨hP1.kept hk2, hQ2, made_in, made_in, hm.1, hn.1, hm.2, hn.2⟩
  have hK2 := hk1.trans hk2
  have hbd := fre_bd hT2.i1 hT2.i2 hm.1 hn.1
  generalize madeN q 30 = m at *
  generalize madeN r 30 = n at *
  generalize madeF q 1 X = A at *
  generalize madeF q 2 Y = B at *
  generalize madeF r 1 U = C at *
  generalize madeF r 2 V = D at *
  clear hx hX hY hq hy hU hV hr hP1 hQ2 hk1 hk2 hy1 hm hn
  obtain ⟨d, HD⟩ : ∃ d, Hid (d = fre m A B n C D) := ⟨_, rfl⟩
  rw [← HD.out] at hbd
  go_wp2_with fail
  refine (Frechet_good _ m n _ _ A B C D hT2).mono ?_
  rw [← HD.out]
  rintro e w3 ⟨rfl, hk3⟩
  have hT3 := hT2.kept hk3
  have hK3 := hK2.trans hk3
  clear hT2 hk3 hK2
  go_wp2_with fail
  refine (Within_good _ m n _ _ A B C D d hbd.1 true (by rw [← HD.out]; exact decide_eq_true (Int.le_refl _)) hT3).mono ?_
  rintro e w4 ⟨rfl, hk4⟩
  have hT4 := hT3.kept hk4
  have hK4 := hK3.trans hk4
  clear hT3 hk4 hK3
  go_wp2_with fail
  refine (Within_good _ m n _ _ A B C D (d + more) (by omega) true (by rw [← HD.out]; exact decide_eq_true (by omega)) hT4).mono ?_
  rintro e w5 ⟨rfl, hk5⟩
  have hT5 := hT4.kept hk5
  have hK5 := hK4.trans hk5
  clear hT4 hk5 hK4
  by_cases h0 : 0 < d
  · go_wp2_with fail
    refine (Within_good _ m n _ _ A B C D (d - 1) (by omega) false (by rw [← HD.out]; exact decide_eq_false (by omega)) hT5).mono ?_
    rintro e w6 ⟨rfl, hk6⟩
    go_wp2_with fail
    refine (lives_any _).mono ?_
    rintro e w7 ⟨rfl, hk7⟩
    go_wp2_with fail
    go_ret
    exact ⟨rfl, (hK5.trans hk6).trans hk7⟩
  · obtain rfl : d = 0 := by omega
    go_wp2_with fail
    refine (Within_below _ m n _ _ A B C D _ (by decide) hT5).mono ?_
    rintro e w6 ⟨rfl, hk6⟩
    go_wp2_with fail
    refine (lives_any _).mono ?_
    rintro e w7 ⟨rfl, hk7⟩
    go_wp2_with fail
    go_ret
    exact ⟨rfl, (hK5.trans hk6).trans hk7⟩
end Go.Proofs.Ytfmcjbddbomohab
